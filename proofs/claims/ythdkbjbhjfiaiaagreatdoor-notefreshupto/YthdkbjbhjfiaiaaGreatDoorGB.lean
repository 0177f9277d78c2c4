import Derived.Test.YthdkbjbhjfiaiaaGreatDoorL2
import Derived.Test.YthdkbjbhjfiaiaaGreatDoorGA
import Derived.Test.YthdkbjbhjfiaiaaGreatDoorM3
namespace Go.Proofs.YthdkbjbhjfiaiaaGreatDoor.vj
open Go.RowKit Go.PlainAid Go.Shelf
open Go.Proofs.YthdkbjbhjfiaiaaGreatDoor.ft Go.Proofs.YthdkbjbhjfiaiaaGreatDoor.pj Go.Proofs.YthdkbjbhjfiaiaaGreatDoor.rf Go.Proofs.YthdkbjbhjfiaiaaGreatDoor.mo Go.Proofs.YthdkbjbhjfiaiaaGreatDoor.nd Go.Proofs.YthdkbjbhjfiaiaaGreatDoor.nh Go.Proofs.YthdkbjbhjfiaiaaGreatDoor.tb Go.Proofs.YthdkbjbhjfiaiaaGreatDoor.vc Go.Proofs.YthdkbjbhjfiaiaaGreatDoor.wb Go.Proofs.YthdkbjbhjfiaiaaGreatDoor.tc Go.Proofs.YthdkbjbhjfiaiaaGreatDoor.tj Go.Proofs.YthdkbjbhjfiaiaaGreatDoor.n3 Go.Proofs.YthdkbjbhjfiaiaaGreatDoor.n4 Go.Proofs.YthdkbjbhjfiaiaaGreatDoor.o1 Go.Proofs.YthdkbjbhjfiaiaaGreatDoor.o3 Go.Proofs.YthdkbjbhjfiaiaaGreatDoor.o4 Go.Proofs.YthdkbjbhjfiaiaaGreatDoor.o5 Go.Proofs.YthdkbjbhjfiaiaaGreatDoor.o6 Go.Proofs.YthdkbjbhjfiaiaaGreatDoor.kp Go.Proofs.YthdkbjbhjfiaiaaGreatDoor.q2 Go.Proofs.YthdkbjbhjfiaiaaGreatDoor.q5 Go.Proofs.YthdkbjbhjfiaiaaGreatDoor.r1 Go.Proofs.YthdkbjbhjfiaiaaGreatDoor.s1 Go.Proofs.YthdkbjbhjfiaiaaGreatDoor.t3 Go.Proofs.YthdkbjbhjfiaiaaGreatDoor.t5 Go.Proofs.YthdkbjbhjfiaiaaGreatDoor.v2 Go.Proofs.YthdkbjbhjfiaiaaGreatDoor.v4 Go.Proofs.YthdkbjbhjfiaiaaGreatDoor.v5 Go.Proofs.YthdkbjbhjfiaiaaGreatDoor.v8 Go.Proofs.YthdkbjbhjfiaiaaGreatDoor.z1 Go.Proofs.YthdkbjbhjfiaiaaGreatDoor.z2 Go.Proofs.YthdkbjbhjfiaiaaGreatDoor.z6 Go.Proofs.YthdkbjbhjfiaiaaGreatDoor.vf
set_option linter.unusedVariables false
set_option maxRecDepth 4000

-- the program's Open, whatever is read: its lists are rows of their own
theorem openF (note : ByteArray) (hz : note.size ≤ 281474976710656) (RL : List ByteArray) (hG : Gives note RL) (kv : Value) (ks : List Ky) (w : World) (hk : ReadsY w kv ks) (hl : ks.length ≤ 4398046511104) (hs : ∀ k ∈ ks, k.1.size ≤ 140737488351232 ∧ k.2.size ≤ 140737488351232) (T : Hid (Tab w)) :
    Calls Tryz.prog 6 #[.string note, kv] w fun e w' => OpF w.heap.size w' (opB note RL ks) e ∧ Below w.heap.size w w' := by
  unfold opB
  by_cases hb : 65536 < note.size
  · rw [if_pos hb]
    exact openF_no note kv ks 121 (by decide) w hk (fun X => read_121 note hb hz X)
  · rw [if_neg hb]
    cases hr : readB note RL with
    | none => exact openF_no note kv ks 200 (by decide) w hk (fun X => read_200 note (by omega) RL hG hr X)
    | some bg =>
      obtain ⟨body, gs⟩ := bg
      obtain ⟨z16, zb⟩ := readB_size hr
      obtain ⟨hp, h0⟩ := read_pw note RL hG body gs hr
      obtain ⟨_, hf⟩ := note_back note RL hG body gs hr
      exact openF_ok note body kv ks gs _ (by omega) z16 hp (by omega) hl hs (fun g hg => by rw [(hf g hg).mac]; omega) rfl w T hk (fun X => read_ok note (by omega) RL hG body gs hr X)
-- what Open answers, as it reads
def OpG (X : World) (t : ByteArray) (go re : List Sg) (ng nr : Nat) (E : Int) (e : Ending) : Prop := ∃ ga gc ra rc, e = .returned (.tuple #[.agg #[.string t, .slice ga ng gc, .slice ra nr rc], .int .i64 E]) ∧ ReadsG X (.slice ga ng gc) go ∧ ReadsG X (.slice ra nr rc) re
theorem opg_q {B : Nat} {X : World} {t : ByteArray} {go re : List Sg} {ng nr : Nat} {E : Int} {e : Ending} (h : OpQ B X ((t, go, re), E) e) (h1 : go.length = ng) (h2 : re.length = nr) : OpG X t go re ng nr E e := by
  subst h1 h2
  obtain ⟨ga, gc, ra, rc, h1, h2, h3, _⟩ := h
  exact ⟨ga, gc, ra, rc, h1, h2, h3⟩
theorem opg_f {B : Nat} {X : World} {t : ByteArray} {go re : List Sg} {ng nr : Nat} {E : Int} {e : Ending} (h : OpF B X ((t, go, re), E) e) (h1 : go.length = ng) (h2 : re.length = nr) : OpG X t go re ng nr E e := by
  subst h1 h2
  obtain ⟨ga, gc, ra, rc, h1, h2, h3, _⟩ := h
  exact ⟨ga, gc, ra, rc, h1, h2.reads, h3.reads⟩
-- the same with the rows told
def OpH (B : Nat) (X : World) (t : ByteArray) (go re : List Sg) (ng nr : Nat) (E : Int) (e : Ending) : Prop := ∃ ga gc ra rc, e = .returned (.tuple #[.agg #[.string t, .slice ga ng gc, .slice ra nr rc], .int .i64 E]) ∧ Lg B (.slice ga ng gc) go X ∧ Lg B (.slice ra nr rc) re X ∧ ∀ b, (Value.slice ga ng gc).ownBlock = some b → (Value.slice ra nr rc).ownBlock ≠ some b
theorem oph_f {B : Nat} {X : World} {t : ByteArray} {go re : List Sg} {ng nr : Nat} {E : Int} {e : Ending} (h : OpF B X ((t, go, re), E) e) (h1 : go.length = ng) (h2 : re.length = nr) : OpH B X t go re ng nr E e := by
  subst h1 h2
  exact h
def PtG (X : World) (o : ByteArray) (m : Int) (r : ByteArray) (l : List ByteArray) (n : Nat) (F : Int) (e : Ending) : Prop := ∃ a c, e = .returned (.tuple #[.agg #[.string o, .int .i64 m, .string r, .slice a n c], .int .i64 F]) ∧ Reads X (.slice a n c) l
def PtH (B : Nat) (X : World) (o : ByteArray) (m : Int) (r : ByteArray) (l : List ByteArray) (n : Nat) (F : Int) (e : Ending) : Prop := ∃ a c, e = .returned (.tuple #[.agg #[.string o, .int .i64 m, .string r, .slice a n c], .int .i64 F]) ∧ ExtOf X B a c l ∧ Reads X (.slice a n c) l
-- boxes
def BO (o : Nat) (t : ByteArray) (go re : List Sg) (ng nr : Nat) (ga : Option Addr) (gc : Nat) (ra : Option Addr) (rc : Nat) (X : World) : Prop := X.heap[o]? = some (.cells #[.string t, .slice ga ng gc, .slice ra nr rc] 25 (0, 0)) ∧ ReadsG X (.slice ga ng gc) go ∧ ReadsG X (.slice ra nr rc) re
def BP (p : Nat) (o : ByteArray) (m : Int) (r : ByteArray) (l : List ByteArray) (n : Nat) (a : Option Addr) (c : Nat) (X : World) : Prop := X.heap[p]? = some (.cells #[.string o, .int .i64 m, .string r, .slice a n c] 30 (0, 0)) ∧ Reads X (.slice a n c) l
theorem bo_new {t : ByteArray} {go re : List Sg} {ng nr : Nat} {ga : Option Addr} {gc : Nat} {ra : Option Addr} {rc : Nat} {w X : World} (h1 : ReadsG w (.slice ga ng gc) go) (h2 : ReadsG w (.slice ra nr rc) re) (h : Below (w.alloc (.cells #[.string t, .slice ga ng gc, .slice ra nr rc] 25)).heap.size (w.alloc (.cells #[.string t, .slice ga ng gc, .slice ra nr rc] 25)) X) : BO w.heap.size t go re ng nr ga gc ra rc X := by
  have hA : Below w.heap.size w (w.alloc (.cells #[.string t, .slice ga ng gc, .slice ra nr rc] 25)) := (Below.refl _ _).alloc (Nat.le_refl _) _
  exact ⟨(h.block w.heap.size (by simp)).trans (heap_alloc_new w _), (h1.later hA).later h, (h2.later hA).later h⟩
theorem bp_new {o : ByteArray} {m : Int} {r : ByteArray} {l : List ByteArray} {n : Nat} {a : Option Addr} {c : Nat} {w X : World} (h1 : Reads w (.slice a n c) l) (h : Below (w.alloc (.cells #[.string o, .int .i64 m, .string r, .slice a n c] 30)).heap.size (w.alloc (.cells #[.string o, .int .i64 m, .string r, .slice a n c] 30)) X) : BP w.heap.size o m r l n a c X := by
  have hA : Below w.heap.size w (w.alloc (.cells #[.string o, .int .i64 m, .string r, .slice a n c] 30)) := (Below.refl _ _).alloc (Nat.le_refl _) _
  exact ⟨(h.block w.heap.size (by simp)).trans (heap_alloc_new w _), (h1.later hA).later h⟩
theorem openedN (t : ByteArray) (go re : List Sg) (ng nr : Nat) (h1 : go.length = ng) (h2 : re.length = nr) (zg : ng ≤ 1000000) (zr : nr ≤ 1000000) (ga ga' ra ra' : Option Addr) (gc gc' rc rc' : Nat) (w : World) (g1 : ReadsG w (.slice ga ng gc) go) (r1 : ReadsG w (.slice ra nr rc) re) (g2 : ReadsG w (.slice ga' ng gc') go) (r2 : ReadsG w (.slice ra' nr rc') re) :
    Calls Tryz.prog 10 #[.agg #[.string t, .slice ga ng gc, .slice ra nr rc], .agg #[.string t, .slice ga' ng gc', .slice ra' nr rc']] w fun e w' => e = .returned (.bool true) ∧ Below w.heap.size w w' := by
  subst h1 h2
  exact openedY t go re ga ga' ra ra' gc gc' rc rc' w g1 g2 r1 r2 zg zr
theorem alikeN (o : ByteArray) (m : Int) (r : ByteArray) (l : List ByteArray) (n : Nat) (hn : l.length = n) (hz : n ≤ 1000000000) (a a' : Option Addr) (c c' : Nat) (w : World) (h1 : Reads w (.slice a n c) l) (h2 : Reads w (.slice a' n c') l) :
    Calls Tryz.prog 11 #[.agg #[.string o, .int .i64 m, .string r, .slice a n c], .agg #[.string o, .int .i64 m, .string r, .slice a' n c']] w fun e w' => e = .returned (.bool true) ∧ Below w.heap.size w w' := by
  subst hn
  exact alikeC o m r l a a' c c' w h1 h2 hz
theorem steps {Q R : World → Prop} {V w1 V1 : World} (S : ∀ X, Below V.heap.size V X → Q X) (b : Below V.heap.size V w1) (b' : Below w1.heap.size w1 V1) (r : ∀ X, Below V1.heap.size V1 X → R X) : ∀ X, Below V1.heap.size V1 X → Q X ∧ R X :=
  fun X h => ⟨S X (Go.Proofs.YthdkbjbhjfiaiaaGreatDoor.nd.over (Go.Proofs.YthdkbjbhjfiaiaaGreatDoor.nd.over b b') h), r X h⟩
theorem op_len (ks : List Ky) (body : ByteArray) : ∀ (gs : List Sg) (s r : List Sg × List Sg), opF ks body gs s = some r → r.1.length ≤ s.1.length + gs.length ∧ r.2.length ≤ s.2.length + gs.length
  | [], s, r, h => by
    rw [opF] at h
    obtain rfl := Option.some.inj h
    simp
  | g :: gs, s, r, h => by
    rw [opF] at h
    split at h
    · have := op_len ks body gs _ r h
      simp at this ⊢; omega
    · split at h
      · have := op_len ks body gs _ r h
        simp at this ⊢; omega
      · cases h
theorem opB_len (note : ByteArray) (RL : List ByteArray) (ks : List Ky) : (opB note RL ks).1.2.1.length ≤ 1000000 ∧ (opB note RL ks).1.2.2.length ≤ 1000000 := by
  unfold opB
  by_cases hb : 65536 < note.size
  · rw [if_pos hb]; exact ⟨Nat.zero_le _, Nat.zero_le _⟩
  · rw [if_neg hb]
    cases hr : readB note RL with
    | none => exact ⟨Nat.zero_le _, Nat.zero_le _⟩
    | some bg =>
      obtain ⟨body, gs⟩ := bg
      have z := (readB_size hr).1
      simp only
      cases hf : opF ks body gs ([], []) with
      | none => exact ⟨Nat.zero_le _, Nat.zero_le _⟩
      | some gr =>
        obtain ⟨go, re⟩ := gr
        have := op_len ks body gs _ _ hf
        simp at this
        simp only
        split
        · exact ⟨Nat.zero_le _, Nat.zero_le _⟩
        · exact ⟨by show go.length ≤ _; omega, by show re.length ≤ _; omega⟩
end Go.Proofs.YthdkbjbhjfiaiaaGreatDoor.vj

namespace Go.Proofs.YthdkbjbhjfiaiaaGreatDoor.vk
open Go.RowKit Go.PlainAid Go.Shelf
open Go.Proofs.YthdkbjbhjfiaiaaGreatDoor.ft Go.Proofs.YthdkbjbhjfiaiaaGreatDoor.pj Go.Proofs.YthdkbjbhjfiaiaaGreatDoor.rf Go.Proofs.YthdkbjbhjfiaiaaGreatDoor.mo Go.Proofs.YthdkbjbhjfiaiaaGreatDoor.nd Go.Proofs.YthdkbjbhjfiaiaaGreatDoor.nh Go.Proofs.YthdkbjbhjfiaiaaGreatDoor.tb Go.Proofs.YthdkbjbhjfiaiaaGreatDoor.vc Go.Proofs.YthdkbjbhjfiaiaaGreatDoor.wb Go.Proofs.YthdkbjbhjfiaiaaGreatDoor.tc Go.Proofs.YthdkbjbhjfiaiaaGreatDoor.tj Go.Proofs.YthdkbjbhjfiaiaaGreatDoor.n3 Go.Proofs.YthdkbjbhjfiaiaaGreatDoor.n4 Go.Proofs.YthdkbjbhjfiaiaaGreatDoor.o1 Go.Proofs.YthdkbjbhjfiaiaaGreatDoor.o3 Go.Proofs.YthdkbjbhjfiaiaaGreatDoor.o4 Go.Proofs.YthdkbjbhjfiaiaaGreatDoor.o5 Go.Proofs.YthdkbjbhjfiaiaaGreatDoor.o6 Go.Proofs.YthdkbjbhjfiaiaaGreatDoor.kp Go.Proofs.YthdkbjbhjfiaiaaGreatDoor.q2 Go.Proofs.YthdkbjbhjfiaiaaGreatDoor.q5 Go.Proofs.YthdkbjbhjfiaiaaGreatDoor.r1 Go.Proofs.YthdkbjbhjfiaiaaGreatDoor.s1 Go.Proofs.YthdkbjbhjfiaiaaGreatDoor.t3 Go.Proofs.YthdkbjbhjfiaiaaGreatDoor.t5 Go.Proofs.YthdkbjbhjfiaiaaGreatDoor.v2 Go.Proofs.YthdkbjbhjfiaiaaGreatDoor.v4 Go.Proofs.YthdkbjbhjfiaiaaGreatDoor.v5 Go.Proofs.YthdkbjbhjfiaiaaGreatDoor.v8 Go.Proofs.YthdkbjbhjfiaiaaGreatDoor.z1 Go.Proofs.YthdkbjbhjfiaiaaGreatDoor.z2 Go.Proofs.YthdkbjbhjfiaiaaGreatDoor.z6 Go.Proofs.YthdkbjbhjfiaiaaGreatDoor.vf Go.Proofs.YthdkbjbhjfiaiaaGreatDoor.vj
set_option linter.unusedVariables false
set_option maxRecDepth 4000

set_option maxHeartbeats 6400000 in
theorem othersC (x y : ByteArray) (hx : x.size ≤ 1048576) (hy : y.size ≤ 1048576) (kv : Value) (ks : List Ky) (w : World) (hk : ReadsY w kv ks) (hl : ks.length ≤ 4398046511104) (hs : ∀ k ∈ ks, k.1.size ≤ 140737488351232 ∧ k.2.size ≤ 140737488351232) (T : Hid (Tab4 w)) (N : Hid (NumW w)) :
    Calls Tryz.prog 9 #[.string x, kv, .string y] w fun e w' => e = .returned (.bool true) ∧ Below w.heap.size w w' := by
  obtain ⟨RLx, hGx, _⟩ := gives_ex x
  have CDx := fun W (hW : Below w.heap.size w W) => openD x RLx hGx kv ks W (hk.later hW) hl hs (T.out.down hW)
  have COx := fun W (hW : Below w.heap.size w W) => openF x (by omega) RLx hGx kv ks W (hk.later hW) hl hs (T.out.down hW).t
  have CQx := fun W (hW : Below w.heap.size w W) => parseC2 x (by omega) W (N.out.down hW)
  have CPx := fun W (hW : Below w.heap.size w W) => parseD2 x (by omega) W
  have zx := opB_len x RLx ks
  have yx := pv_len x
  generalize opB x RLx ks = Ox at *
  generalize pv x = Px at *
  generalize pvF x = Fx at *
  obtain ⟨⟨tx, gox, rex⟩, Ex⟩ := Ox
  obtain ⟨ox, mx, rx, lx⟩ := Px
  obtain ⟨ngx, HNGx⟩ : ∃ n, Hid (gox.length = n) := ⟨_, rfl⟩
  obtain ⟨nrx, HNRx⟩ : ∃ n, Hid (rex.length = n) := ⟨_, rfl⟩
  obtain ⟨nx, HNx⟩ : ∃ n, Hid (lx.length = n) := ⟨_, rfl⟩
  have zgx : ngx ≤ 1000000 := by rw [← HNGx.out]; exact zx.1
  have zrx : nrx ≤ 1000000 := by rw [← HNRx.out]; exact zx.2
  have znx : nx ≤ 1000000000 := by rw [← HNx.out]; have : lx.length ≤ x.size := yx; omega
  have Dx : Hid (∀ W, Below w.heap.size w W → Calls Tryz.prog 4 #[.string x, kv] W fun e w' => OpG w' tx gox rex ngx nrx Ex e ∧ Below W.heap.size W w') := fun W hW => (CDx W hW).mono (fun e w' h => ⟨opg_q h.1 HNGx.out HNRx.out, h.2⟩)
  have Ax : Hid (∀ W, Below w.heap.size w W → Calls Tryz.prog 6 #[.string x, kv] W fun e w' => OpG w' tx gox rex ngx nrx Ex e ∧ Below W.heap.size W w') := fun W hW => (COx W hW).mono (fun e w' h => ⟨opg_f h.1 HNGx.out HNRx.out, h.2⟩)
  have Qx : Hid (∀ W, Below w.heap.size w W → Calls Tryz.prog 7 #[.string x] W fun e w' => PtG w' ox mx rx lx nx Fx e ∧ Below W.heap.size W w') := fun W hW => (CQx W hW).mono (by
    rintro e w' ⟨⟨a, c, rfl, h⟩, hb⟩
    simp only [HNx.out]
    exact ⟨⟨a, c, rfl, by rw [← HNx.out]; exact h.reads⟩, hb⟩)
  have Px : Hid (∀ W, Below w.heap.size w W → Calls Tryz.prog 5 #[.string x] W fun e w' => PtG w' ox mx rx lx nx Fx e ∧ Below W.heap.size W w') := fun W hW => (CPx W hW).mono (by
    rintro e w' ⟨⟨a, c, rfl, h⟩, hb⟩
    simp only [HNx.out]
    exact ⟨⟨a, c, rfl, by rw [← HNx.out]; exact h⟩, hb⟩)
  clear CDx COx CQx CPx zx yx hGx
  obtain ⟨RLy, hGy, _⟩ := gives_ex y
  have CDy := fun W (hW : Below w.heap.size w W) => openD y RLy hGy kv ks W (hk.later hW) hl hs (T.out.down hW)
  have COy := fun W (hW : Below w.heap.size w W) => openF y (by omega) RLy hGy kv ks W (hk.later hW) hl hs (T.out.down hW).t
  have CQy := fun W (hW : Below w.heap.size w W) => parseC2 y (by omega) W (N.out.down hW)
  have CPy := fun W (hW : Below w.heap.size w W) => parseD2 y (by omega) W
  have zy := opB_len y RLy ks
  have yy := pv_len y
  generalize opB y RLy ks = Oy at *
  generalize pv y = Py at *
  generalize pvF y = Fy at *
  obtain ⟨⟨ty, goy, rey⟩, Ey⟩ := Oy
  obtain ⟨oy, my, ry, ly⟩ := Py
  obtain ⟨ngy, HNGy⟩ : ∃ n, Hid (goy.length = n) := ⟨_, rfl⟩
  obtain ⟨nry, HNRy⟩ : ∃ n, Hid (rey.length = n) := ⟨_, rfl⟩
  obtain ⟨ny, HNy⟩ : ∃ n, Hid (ly.length = n) := ⟨_, rfl⟩
  have zgy : ngy ≤ 1000000 := by rw [← HNGy.out]; exact zy.1
  have zry : nry ≤ 1000000 := by rw [← HNRy.out]; exact zy.2
  have zny : ny ≤ 1000000000 := by rw [← HNy.out]; have : ly.length ≤ y.size := yy; omega
  have Dy : Hid (∀ W, Below w.heap.size w W → Calls Tryz.prog 4 #[.string y, kv] W fun e w' => OpG w' ty goy rey ngy nry Ey e ∧ Below W.heap.size W w') := fun W hW => (CDy W hW).mono (fun e w' h => ⟨opg_q h.1 HNGy.out HNRy.out, h.2⟩)
  have Ay : Hid (∀ W, Below w.heap.size w W → Calls Tryz.prog 6 #[.string y, kv] W fun e w' => OpG w' ty goy rey ngy nry Ey e ∧ Below W.heap.size W w') := fun W hW => (COy W hW).mono (fun e w' h => ⟨opg_f h.1 HNGy.out HNRy.out, h.2⟩)
  have Qy : Hid (∀ W, Below w.heap.size w W → Calls Tryz.prog 7 #[.string y] W fun e w' => PtG w' oy my ry ly ny Fy e ∧ Below W.heap.size W w') := fun W hW => (CQy W hW).mono (by
    rintro e w' ⟨⟨a, c, rfl, h⟩, hb⟩
    simp only [HNy.out]
    exact ⟨⟨a, c, rfl, by rw [← HNy.out]; exact h.reads⟩, hb⟩)
  have Py : Hid (∀ W, Below w.heap.size w W → Calls Tryz.prog 5 #[.string y] W fun e w' => PtG w' oy my ry ly ny Fy e ∧ Below W.heap.size W w') := fun W hW => (CPy W hW).mono (by
    rintro e w' ⟨⟨a, c, rfl, h⟩, hb⟩
    simp only [HNy.out]
    exact ⟨⟨a, c, rfl, by rw [← HNy.out]; exact h⟩, hb⟩)
  clear CDy COy CQy CPy zy yy hGy
  clear hk hl hs hx hy T N
  have S0 : Hid (∀ X, Below w.heap.size w X → Below w.heap.size w X) := fun X h => h
  have B0 : Hid (Below w.heap.size w w) := Below.refl _ _
  go_enter Tryz.func9, Tryz.ntmps9
  go_wp2_with fail
  refine (Dy.out w B0.out).mono ?_
  rintro e w1 ⟨⟨ga1, gc1, ra1, rc1, rfl, h1, h2⟩, hb⟩
  obtain ⟨V1, HV1⟩ : ∃ V, Hid (w1.alloc (.cells #[.string ty, .slice ga1 ngy gc1, .slice ra1 nry rc1] 25) = V) := ⟨_, rfl⟩
  obtain ⟨b1, HB1⟩ : ∃ b, Hid (w1.heap.size = b) := ⟨_, rfl⟩
  have S1 : Hid (∀ X, Below V1.heap.size V1 X → (Below w.heap.size w X) ∧ BO b1 ty goy rey ngy nry ga1 gc1 ra1 rc1 X) := by
    rw [← HV1.out, ← HB1.out]
    exact steps S0.out hb ((Below.refl _ _).alloc (Nat.le_refl _) _) (fun X h => bo_new h1 h2 h)
  have B1 : Hid (Below w.heap.size w V1) := (S1.out _ (Below.refl _ _)).1
  clear h1 h2 hb S0
  go_upto_region 2 with fail
  rw [HV1.out, HB1.out]
  go_wp2_with fail
  refine (Px.out V1 B1.out).mono ?_
  rintro e w2 ⟨⟨ga2, gc2, rfl, h1⟩, hb⟩
  obtain ⟨V2, HV2⟩ : ∃ V, Hid (w2.alloc (.cells #[.string ox, .int .i64 mx, .string rx, .slice ga2 nx gc2] 30) = V) := ⟨_, rfl⟩
  obtain ⟨b2, HB2⟩ : ∃ b, Hid (w2.heap.size = b) := ⟨_, rfl⟩
  have S2 : Hid (∀ X, Below V2.heap.size V2 X → ((Below w.heap.size w X) ∧ BO b1 ty goy rey ngy nry ga1 gc1 ra1 rc1 X) ∧ BP b2 ox mx rx lx nx ga2 gc2 X) := by
    rw [← HV2.out, ← HB2.out]
    exact steps S1.out hb ((Below.refl _ _).alloc (Nat.le_refl _) _) (fun X h => bp_new h1 h)
  have B2 : Hid (Below w.heap.size w V2) := (S2.out _ (Below.refl _ _)).1.1
  clear h1 hb S1
  go_upto_region 3 with fail
  rw [HV2.out, HB2.out]
  go_wp2_with fail
  refine (Dx.out V2 B2.out).mono ?_
  rintro e w3 ⟨⟨ga3, gc3, ra3, rc3, rfl, h1, h2⟩, hb⟩
  obtain ⟨V3, HV3⟩ : ∃ V, Hid (w3.alloc (.cells #[.string tx, .slice ga3 ngx gc3, .slice ra3 nrx rc3] 25) = V) := ⟨_, rfl⟩
  obtain ⟨b3, HB3⟩ : ∃ b, Hid (w3.heap.size = b) := ⟨_, rfl⟩
  have S3 : Hid (∀ X, Below V3.heap.size V3 X → (((Below w.heap.size w X) ∧ BO b1 ty goy rey ngy nry ga1 gc1 ra1 rc1 X) ∧ BP b2 ox mx rx lx nx ga2 gc2 X) ∧ BO b3 tx gox rex ngx nrx ga3 gc3 ra3 rc3 X) := by
    rw [← HV3.out, ← HB3.out]
    exact steps S2.out hb ((Below.refl _ _).alloc (Nat.le_refl _) _) (fun X h => bo_new h1 h2 h)
  have B3 : Hid (Below w.heap.size w V3) := (S3.out _ (Below.refl _ _)).1.1.1
  clear h1 h2 hb S2
  go_upto_region 4 with fail
  rw [HV3.out, HB3.out]
  go_wp2_with fail
  refine (Py.out V3 B3.out).mono ?_
  rintro e w4 ⟨⟨ga4, gc4, rfl, h1⟩, hb⟩
  obtain ⟨V4, HV4⟩ : ∃ V, Hid (w4.alloc (.cells #[.string oy, .int .i64 my, .string ry, .slice ga4 ny gc4] 30) = V) := ⟨_, rfl⟩
  obtain ⟨b4, HB4⟩ : ∃ b, Hid (w4.heap.size = b) := ⟨_, rfl⟩
  have S4 : Hid (∀ X, Below V4.heap.size V4 X → ((((Below w.heap.size w X) ∧ BO b1 ty goy rey ngy nry ga1 gc1 ra1 rc1 X) ∧ BP b2 ox mx rx lx nx ga2 gc2 X) ∧ BO b3 tx gox rex ngx nrx ga3 gc3 ra3 rc3 X) ∧ BP b4 oy my ry ly ny ga4 gc4 X) := by
    rw [← HV4.out, ← HB4.out]
    exact steps S3.out hb ((Below.refl _ _).alloc (Nat.le_refl _) _) (fun X h => bp_new h1 h)
  have B4 : Hid (Below w.heap.size w V4) := (S4.out _ (Below.refl _ _)).1.1.1.1
  clear h1 hb S3
  go_upto_region 5 with fail
  rw [HV4.out, HB4.out]
  go_wp2_with fail
  refine (Ay.out V4 B4.out).mono ?_
  rintro e w5 ⟨⟨ga5, gc5, ra5, rc5, rfl, h1, h2⟩, hb⟩
  obtain ⟨V5, HV5⟩ : ∃ V, Hid (w5.alloc (.cells #[.string ty, .slice ga5 ngy gc5, .slice ra5 nry rc5] 25) = V) := ⟨_, rfl⟩
  obtain ⟨b5, HB5⟩ : ∃ b, Hid (w5.heap.size = b) := ⟨_, rfl⟩
  have S5 : Hid (∀ X, Below V5.heap.size V5 X → (((((Below w.heap.size w X) ∧ BO b1 ty goy rey ngy nry ga1 gc1 ra1 rc1 X) ∧ BP b2 ox mx rx lx nx ga2 gc2 X) ∧ BO b3 tx gox rex ngx nrx ga3 gc3 ra3 rc3 X) ∧ BP b4 oy my ry ly ny ga4 gc4 X) ∧ BO b5 ty goy rey ngy nry ga5 gc5 ra5 rc5 X) := by
    rw [← HV5.out, ← HB5.out]
    exact steps S4.out hb ((Below.refl _ _).alloc (Nat.le_refl _) _) (fun X h => bo_new h1 h2 h)
  have B5 : Hid (Below w.heap.size w V5) := (S5.out _ (Below.refl _ _)).1.1.1.1.1
  clear h1 h2 hb S4
  go_upto_region 6 with fail
  rw [HV5.out, HB5.out]
  go_wp2_with fail
  refine (Ay.out V5 B5.out).mono ?_
  rintro e w6 ⟨⟨ga6, gc6, ra6, rc6, rfl, h1, h2⟩, hb⟩
  obtain ⟨V6, HV6⟩ : ∃ V, Hid (w6.alloc (.cells #[.string ty, .slice ga6 ngy gc6, .slice ra6 nry rc6] 25) = V) := ⟨_, rfl⟩
  obtain ⟨b6, HB6⟩ : ∃ b, Hid (w6.heap.size = b) := ⟨_, rfl⟩
  have S6 : Hid (∀ X, Below V6.heap.size V6 X → ((((((Below w.heap.size w X) ∧ BO b1 ty goy rey ngy nry ga1 gc1 ra1 rc1 X) ∧ BP b2 ox mx rx lx nx ga2 gc2 X) ∧ BO b3 tx gox rex ngx nrx ga3 gc3 ra3 rc3 X) ∧ BP b4 oy my ry ly ny ga4 gc4 X) ∧ BO b5 ty goy rey ngy nry ga5 gc5 ra5 rc5 X) ∧ BO b6 ty goy rey ngy nry ga6 gc6 ra6 rc6 X) := by
    rw [← HV6.out, ← HB6.out]
    exact steps S5.out hb ((Below.refl _ _).alloc (Nat.le_refl _) _) (fun X h => bo_new h1 h2 h)
  have B6 : Hid (Below w.heap.size w V6) := (S6.out _ (Below.refl _ _)).1.1.1.1.1.1
  clear h1 h2 hb S5
  go_upto_region 7 with fail
  rw [HV6.out, HB6.out]
  go_wp2_with fail
  refine (Qx.out V6 B6.out).mono ?_
  rintro e w7 ⟨⟨ga7, gc7, rfl, h1⟩, hb⟩
  obtain ⟨V7, HV7⟩ : ∃ V, Hid (w7.alloc (.cells #[.string ox, .int .i64 mx, .string rx, .slice ga7 nx gc7] 30) = V) := ⟨_, rfl⟩
  obtain ⟨b7, HB7⟩ : ∃ b, Hid (w7.heap.size = b) := ⟨_, rfl⟩
  have S7 : Hid (∀ X, Below V7.heap.size V7 X → (((((((Below w.heap.size w X) ∧ BO b1 ty goy rey ngy nry ga1 gc1 ra1 rc1 X) ∧ BP b2 ox mx rx lx nx ga2 gc2 X) ∧ BO b3 tx gox rex ngx nrx ga3 gc3 ra3 rc3 X) ∧ BP b4 oy my ry ly ny ga4 gc4 X) ∧ BO b5 ty goy rey ngy nry ga5 gc5 ra5 rc5 X) ∧ BO b6 ty goy rey ngy nry ga6 gc6 ra6 rc6 X) ∧ BP b7 ox mx rx lx nx ga7 gc7 X) := by
    rw [← HV7.out, ← HB7.out]
    exact steps S6.out hb ((Below.refl _ _).alloc (Nat.le_refl _) _) (fun X h => bp_new h1 h)
  have B7 : Hid (Below w.heap.size w V7) := (S7.out _ (Below.refl _ _)).1.1.1.1.1.1.1
  clear h1 hb S6
  go_upto_region 8 with fail
  rw [HV7.out, HB7.out]
  go_wp2_with fail
  refine (Qx.out V7 B7.out).mono ?_
  rintro e w8 ⟨⟨ga8, gc8, rfl, h1⟩, hb⟩
  obtain ⟨V8, HV8⟩ : ∃ V, Hid (w8.alloc (.cells #[.string ox, .int .i64 mx, .string rx, .slice ga8 nx gc8] 30) = V) := ⟨_, rfl⟩
  obtain ⟨b8, HB8⟩ : ∃ b, Hid (w8.heap.size = b) := ⟨_, rfl⟩
  have S8 : Hid (∀ X, Below V8.heap.size V8 X → ((((((((Below w.heap.size w X) ∧ BO b1 ty goy rey ngy nry ga1 gc1 ra1 rc1 X) ∧ BP b2 ox mx rx lx nx ga2 gc2 X) ∧ BO b3 tx gox rex ngx nrx ga3 gc3 ra3 rc3 X) ∧ BP b4 oy my ry ly ny ga4 gc4 X) ∧ BO b5 ty goy rey ngy nry ga5 gc5 ra5 rc5 X) ∧ BO b6 ty goy rey ngy nry ga6 gc6 ra6 rc6 X) ∧ BP b7 ox mx rx lx nx ga7 gc7 X) ∧ BP b8 ox mx rx lx nx ga8 gc8 X) := by
    rw [← HV8.out, ← HB8.out]
    exact steps S7.out hb ((Below.refl _ _).alloc (Nat.le_refl _) _) (fun X h => bp_new h1 h)
  have B8 : Hid (Below w.heap.size w V8) := (S8.out _ (Below.refl _ _)).1.1.1.1.1.1.1.1
  clear h1 hb S7
  go_upto_region 9 with fail
  rw [HV8.out, HB8.out]
  go_wp2_with fail
  refine (Ax.out V8 B8.out).mono ?_
  rintro e w9 ⟨⟨ga9, gc9, ra9, rc9, rfl, h1, h2⟩, hb⟩
  obtain ⟨V9, HV9⟩ : ∃ V, Hid (w9.alloc (.cells #[.string tx, .slice ga9 ngx gc9, .slice ra9 nrx rc9] 25) = V) := ⟨_, rfl⟩
  obtain ⟨b9, HB9⟩ : ∃ b, Hid (w9.heap.size = b) := ⟨_, rfl⟩
  have S9 : Hid (∀ X, Below V9.heap.size V9 X → (((((((((Below w.heap.size w X) ∧ BO b1 ty goy rey ngy nry ga1 gc1 ra1 rc1 X) ∧ BP b2 ox mx rx lx nx ga2 gc2 X) ∧ BO b3 tx gox rex ngx nrx ga3 gc3 ra3 rc3 X) ∧ BP b4 oy my ry ly ny ga4 gc4 X) ∧ BO b5 ty goy rey ngy nry ga5 gc5 ra5 rc5 X) ∧ BO b6 ty goy rey ngy nry ga6 gc6 ra6 rc6 X) ∧ BP b7 ox mx rx lx nx ga7 gc7 X) ∧ BP b8 ox mx rx lx nx ga8 gc8 X) ∧ BO b9 tx gox rex ngx nrx ga9 gc9 ra9 rc9 X) := by
    rw [← HV9.out, ← HB9.out]
    exact steps S8.out hb ((Below.refl _ _).alloc (Nat.le_refl _) _) (fun X h => bo_new h1 h2 h)
  have B9 : Hid (Below w.heap.size w V9) := (S9.out _ (Below.refl _ _)).1.1.1.1.1.1.1.1.1
  clear h1 h2 hb S8
  go_upto_region 10 with fail
  rw [HV9.out, HB9.out]
  go_wp2_with fail
  refine (Qy.out V9 B9.out).mono ?_
  rintro e w10 ⟨⟨ga10, gc10, rfl, h1⟩, hb⟩
  obtain ⟨V10, HV10⟩ : ∃ V, Hid (w10.alloc (.cells #[.string oy, .int .i64 my, .string ry, .slice ga10 ny gc10] 30) = V) := ⟨_, rfl⟩
  obtain ⟨b10, HB10⟩ : ∃ b, Hid (w10.heap.size = b) := ⟨_, rfl⟩
  have S10 : Hid (∀ X, Below V10.heap.size V10 X → ((((((((((Below w.heap.size w X) ∧ BO b1 ty goy rey ngy nry ga1 gc1 ra1 rc1 X) ∧ BP b2 ox mx rx lx nx ga2 gc2 X) ∧ BO b3 tx gox rex ngx nrx ga3 gc3 ra3 rc3 X) ∧ BP b4 oy my ry ly ny ga4 gc4 X) ∧ BO b5 ty goy rey ngy nry ga5 gc5 ra5 rc5 X) ∧ BO b6 ty goy rey ngy nry ga6 gc6 ra6 rc6 X) ∧ BP b7 ox mx rx lx nx ga7 gc7 X) ∧ BP b8 ox mx rx lx nx ga8 gc8 X) ∧ BO b9 tx gox rex ngx nrx ga9 gc9 ra9 rc9 X) ∧ BP b10 oy my ry ly ny ga10 gc10 X) := by
    rw [← HV10.out, ← HB10.out]
    exact steps S9.out hb ((Below.refl _ _).alloc (Nat.le_refl _) _) (fun X h => bp_new h1 h)
  have B10 : Hid (Below w.heap.size w V10) := (S10.out _ (Below.refl _ _)).1.1.1.1.1.1.1.1.1.1
  clear h1 hb S9
  go_upto_region 11 with fail
  rw [HV10.out, HB10.out]
  have SS : Hid (∀ X, Below V10.heap.size V10 X → ((((((((((Below w.heap.size w X) ∧ BO b1 ty goy rey ngy nry ga1 gc1 ra1 rc1 X) ∧ BP b2 ox mx rx lx nx ga2 gc2 X) ∧ BO b3 tx gox rex ngx nrx ga3 gc3 ra3 rc3 X) ∧ BP b4 oy my ry ly ny ga4 gc4 X) ∧ BO b5 ty goy rey ngy nry ga5 gc5 ra5 rc5 X) ∧ BO b6 ty goy rey ngy nry ga6 gc6 ra6 rc6 X) ∧ BP b7 ox mx rx lx nx ga7 gc7 X) ∧ BP b8 ox mx rx lx nx ga8 gc8 X) ∧ BO b9 tx gox rex ngx nrx ga9 gc9 ra9 rc9 X) ∧ BP b10 oy my ry ly ny ga10 gc10 X) := S10.out
  have K0 : Hid (Below V10.heap.size V10 V10) := Below.refl _ _
  clear S10 B0 B1 B2 B3 B4 B5 B6 B7 B8 B9 B10
  have s1 := SS.out _ K0.out
  have a0 := cell_of_row _ _ 0 _ _ _ s1.1.1.1.1.1.2.1
  have a1 := cell_of_row _ _ 1 _ _ _ s1.1.1.1.1.1.2.1
  have a2 := cell_of_row _ _ 2 _ _ _ s1.1.1.1.1.1.2.1
  have d0 := cell_of_row _ _ 0 _ _ _ s1.1.1.1.1.1.1.1.1.1.2.1
  have d1 := cell_of_row _ _ 1 _ _ _ s1.1.1.1.1.1.1.1.1.1.2.1
  have d2 := cell_of_row _ _ 2 _ _ _ s1.1.1.1.1.1.1.1.1.1.2.1
  have CC : Hid (Calls _ _ _ _ _) := openedN ty goy rey ngy nry HNGy.out HNRy.out zgy zry _ _ _ _ _ _ _ _ V10 s1.1.1.1.1.1.2.2.1 s1.1.1.1.1.1.2.2.2 s1.1.1.1.1.1.1.1.1.1.2.2.1 s1.1.1.1.1.1.1.1.1.1.2.2.2
  clear s1
  go_wp2_with fail
  refine CC.out.mono ?_
  rintro e x1 ⟨rfl, hb⟩
  have K1 : Hid (Below V10.heap.size V10 x1) := Go.Proofs.YthdkbjbhjfiaiaaGreatDoor.nd.over K0.out hb
  clear hb CC a0 d0 a1 d1 a2 d2
  have s2 := SS.out _ K1.out
  have a0 := cell_of_row _ _ 0 _ _ _ s2.1.1.1.1.2.1
  have a1 := cell_of_row _ _ 1 _ _ _ s2.1.1.1.1.2.1
  have a2 := cell_of_row _ _ 2 _ _ _ s2.1.1.1.1.2.1
  have d0 := cell_of_row _ _ 0 _ _ _ s2.1.1.1.1.1.1.1.1.1.2.1
  have d1 := cell_of_row _ _ 1 _ _ _ s2.1.1.1.1.1.1.1.1.1.2.1
  have d2 := cell_of_row _ _ 2 _ _ _ s2.1.1.1.1.1.1.1.1.1.2.1
  have CC : Hid (Calls _ _ _ _ _) := openedN ty goy rey ngy nry HNGy.out HNRy.out zgy zry _ _ _ _ _ _ _ _ x1 s2.1.1.1.1.2.2.1 s2.1.1.1.1.2.2.2 s2.1.1.1.1.1.1.1.1.1.2.2.1 s2.1.1.1.1.1.1.1.1.1.2.2.2
  clear s2
  go_wp2_with fail
  refine CC.out.mono ?_
  rintro e x2 ⟨rfl, hb⟩
  have K2 : Hid (Below V10.heap.size V10 x2) := Go.Proofs.YthdkbjbhjfiaiaaGreatDoor.nd.over K1.out hb
  clear hb CC a0 d0 a1 d1 a2 d2
  have s3 := SS.out _ K2.out
  have a0 := cell_of_row _ _ 0 _ _ _ s3.1.1.1.2.1
  have a1 := cell_of_row _ _ 1 _ _ _ s3.1.1.1.2.1
  have a2 := cell_of_row _ _ 2 _ _ _ s3.1.1.1.2.1
  have a3 := cell_of_row _ _ 3 _ _ _ s3.1.1.1.2.1
  have d0 := cell_of_row _ _ 0 _ _ _ s3.1.1.1.1.1.1.1.1.2.1
  have d1 := cell_of_row _ _ 1 _ _ _ s3.1.1.1.1.1.1.1.1.2.1
  have d2 := cell_of_row _ _ 2 _ _ _ s3.1.1.1.1.1.1.1.1.2.1
  have d3 := cell_of_row _ _ 3 _ _ _ s3.1.1.1.1.1.1.1.1.2.1
  have CC : Hid (Calls _ _ _ _ _) := alikeN ox mx rx lx nx HNx.out znx _ _ _ _ x2 s3.1.1.1.2.2 s3.1.1.1.1.1.1.1.1.2.2
  clear s3
  go_wp2_with fail
  refine CC.out.mono ?_
  rintro e x3 ⟨rfl, hb⟩
  have K3 : Hid (Below V10.heap.size V10 x3) := Go.Proofs.YthdkbjbhjfiaiaaGreatDoor.nd.over K2.out hb
  clear hb CC a0 d0 a1 d1 a2 d2 a3 d3
  have s4 := SS.out _ K3.out
  have a0 := cell_of_row _ _ 0 _ _ _ s4.1.1.2.1
  have a1 := cell_of_row _ _ 1 _ _ _ s4.1.1.2.1
  have a2 := cell_of_row _ _ 2 _ _ _ s4.1.1.2.1
  have a3 := cell_of_row _ _ 3 _ _ _ s4.1.1.2.1
  have d0 := cell_of_row _ _ 0 _ _ _ s4.1.1.1.1.1.1.1.1.2.1
  have d1 := cell_of_row _ _ 1 _ _ _ s4.1.1.1.1.1.1.1.1.2.1
  have d2 := cell_of_row _ _ 2 _ _ _ s4.1.1.1.1.1.1.1.1.2.1
  have d3 := cell_of_row _ _ 3 _ _ _ s4.1.1.1.1.1.1.1.1.2.1
  have CC : Hid (Calls _ _ _ _ _) := alikeN ox mx rx lx nx HNx.out znx _ _ _ _ x3 s4.1.1.2.2 s4.1.1.1.1.1.1.1.1.2.2
  clear s4
  go_wp2_with fail
  refine CC.out.mono ?_
  rintro e x4 ⟨rfl, hb⟩
  have K4 : Hid (Below V10.heap.size V10 x4) := Go.Proofs.YthdkbjbhjfiaiaaGreatDoor.nd.over K3.out hb
  clear hb CC a0 d0 a1 d1 a2 d2 a3 d3
  have s5 := SS.out _ K4.out
  have a0 := cell_of_row _ _ 0 _ _ _ s5.1.2.1
  have a1 := cell_of_row _ _ 1 _ _ _ s5.1.2.1
  have a2 := cell_of_row _ _ 2 _ _ _ s5.1.2.1
  have d0 := cell_of_row _ _ 0 _ _ _ s5.1.1.1.1.1.1.1.2.1
  have d1 := cell_of_row _ _ 1 _ _ _ s5.1.1.1.1.1.1.1.2.1
  have d2 := cell_of_row _ _ 2 _ _ _ s5.1.1.1.1.1.1.1.2.1
  have CC : Hid (Calls _ _ _ _ _) := openedN tx gox rex ngx nrx HNGx.out HNRx.out zgx zrx _ _ _ _ _ _ _ _ x4 s5.1.2.2.1 s5.1.2.2.2 s5.1.1.1.1.1.1.1.2.2.1 s5.1.1.1.1.1.1.1.2.2.2
  clear s5
  go_wp2_with fail
  refine CC.out.mono ?_
  rintro e x5 ⟨rfl, hb⟩
  have K5 : Hid (Below V10.heap.size V10 x5) := Go.Proofs.YthdkbjbhjfiaiaaGreatDoor.nd.over K4.out hb
  clear hb CC a0 d0 a1 d1 a2 d2
  have s6 := SS.out _ K5.out
  have a0 := cell_of_row _ _ 0 _ _ _ s6.2.1
  have a1 := cell_of_row _ _ 1 _ _ _ s6.2.1
  have a2 := cell_of_row _ _ 2 _ _ _ s6.2.1
  have a3 := cell_of_row _ _ 3 _ _ _ s6.2.1
  have d0 := cell_of_row _ _ 0 _ _ _ s6.1.1.1.1.1.1.2.1
  have d1 := cell_of_row _ _ 1 _ _ _ s6.1.1.1.1.1.1.2.1
  have d2 := cell_of_row _ _ 2 _ _ _ s6.1.1.1.1.1.1.2.1
  have d3 := cell_of_row _ _ 3 _ _ _ s6.1.1.1.1.1.1.2.1
  have CC : Hid (Calls _ _ _ _ _) := alikeN oy my ry ly ny HNy.out zny _ _ _ _ x5 s6.2.2 s6.1.1.1.1.1.1.2.2
  clear s6
  go_wp2_with fail
  refine CC.out.mono ?_
  rintro e x6 ⟨rfl, hb⟩
  have K6 : Hid (Below V10.heap.size V10 x6) := Go.Proofs.YthdkbjbhjfiaiaaGreatDoor.nd.over K5.out hb
  clear hb CC a0 d0 a1 d1 a2 d2 a3 d3
  go_wp2
  go_ret
  exact ⟨rfl, (SS.out _ K6.out).1.1.1.1.1.1.1.1.1.1⟩
end Go.Proofs.YthdkbjbhjfiaiaaGreatDoor.vk

namespace Go.Proofs.YthdkbjbhjfiaiaaGreatDoor.vh
open Go.RowKit Go.PlainAid Go.Shelf
open Go.Proofs.YthdkbjbhjfiaiaaGreatDoor.cp Go.Proofs.YthdkbjbhjfiaiaaGreatDoor.ft Go.Proofs.YthdkbjbhjfiaiaaGreatDoor.pj Go.Proofs.YthdkbjbhjfiaiaaGreatDoor.mo Go.Proofs.YthdkbjbhjfiaiaaGreatDoor.tb Go.Proofs.YthdkbjbhjfiaiaaGreatDoor.tc Go.Proofs.YthdkbjbhjfiaiaaGreatDoor.tj Go.Proofs.YthdkbjbhjfiaiaaGreatDoor.va Go.Proofs.YthdkbjbhjfiaiaaGreatDoor.vb Go.Proofs.YthdkbjbhjfiaiaaGreatDoor.vc Go.Proofs.YthdkbjbhjfiaiaaGreatDoor.o1 Go.Proofs.YthdkbjbhjfiaiaaGreatDoor.o6 Go.Proofs.YthdkbjbhjfiaiaaGreatDoor.kp Go.Proofs.YthdkbjbhjfiaiaaGreatDoor.v4 Go.Proofs.YthdkbjbhjfiaiaaGreatDoor.v5 Go.Proofs.YthdkbjbhjfiaiaaGreatDoor.z2 Go.Proofs.YthdkbjbhjfiaiaaGreatDoor.vf Go.Proofs.YthdkbjbhjfiaiaaGreatDoor.vg Go.Proofs.YthdkbjbhjfiaiaaGreatDoor.vh Go.Proofs.YthdkbjbhjfiaiaaGreatDoor.vj
set_option linter.unusedVariables false
set_option maxRecDepth 4000

-- what stands beside the lists that are written
structure Sd (w : World) (t : ByteArray) (go re : List Sg) (ng nr : Nat) (o : ByteArray) (m : Int) (r : ByteArray) (l : List ByteArray) (n : Nat) (ga1 : Option Addr) (gc1 : Nat) (ra1 : Option Addr) (rc1 : Nat) (a2 : Option Addr) (c2 : Nat) (ga3 : Option Addr) (gc3 : Nat) (ra3 : Option Addr) (rc3 : Nat) (ga4 : Option Addr) (gc4 : Nat) (ra4 : Option Addr) (rc4 : Nat) (a5 : Option Addr) (c5 : Nat) (a6 : Option Addr) (c6 : Nat) (b1 b2 b3 b4 b5 b6 : Nat) (X : World) : Prop where
  lo : Below w.heap.size w X
  x1 : BO b1 t go re ng nr ga1 gc1 ra1 rc1 X
  x2 : BP b2 o m r l n a2 c2 X
  x3 : X.heap[b3]? = some (.cells #[.string t, .slice ga3 ng gc3, .slice ra3 nr rc3] 25 (0, 0))
  x4 : BO b4 t go re ng nr ga4 gc4 ra4 rc4 X
  x5 : X.heap[b5]? = some (.cells #[.string o, .int .i64 m, .string r, .slice a5 n c5] 30 (0, 0))
  x6 : BP b6 o m r l n a6 c6 X
theorem ext_rng {w w' : World} {B : Nat} {a : Option Addr} {c : Nat} {l : List ByteArray} (h : ExtOf w B a c l) (hk : ∀ j, B ≤ j → j < w.heap.size → w'.heap[j]? = w.heap[j]?) : ExtOf w' B a c l := by
  rcases h with h | ⟨h0, g, x, y, z, rfl, h2, h3⟩
  · exact .inl h
  · exact .inr ⟨h0, g, x, y, z, rfl, h2, (hk g h2 (Array.getElem?_eq_some_iff.1 h3).1).trans h3⟩
theorem bel_alloc (w : World) (o : Obj) : Below w.heap.size w (w.alloc o) := (Below.refl _ _).alloc (Nat.le_refl _) _
set_option maxHeartbeats 1600000 in
theorem side_of (t : ByteArray) (go re : List Sg) (ng nr : Nat) (o : ByteArray) (m : Int) (r : ByteArray) (l : List ByteArray) (n : Nat) (ga1 : Option Addr) (gc1 : Nat) (ra1 : Option Addr) (rc1 : Nat) (a2 : Option Addr) (c2 : Nat) (ga3 : Option Addr) (gc3 : Nat) (ra3 : Option Addr) (rc3 : Nat) (ga4 : Option Addr) (gc4 : Nat) (ra4 : Option Addr) (rc4 : Nat) (a5 : Option Addr) (c5 : Nat) (a6 : Option Addr) (c6 : Nat) {w w1 V1 w2 V2 w3 V3 w4 V4 w5 V5 w6 V6 w8 : World} (hb1 : Below w.heap.size w w1)
    (e1 : w1.alloc (.cells #[.string t, .slice ga1 ng gc1, .slice ra1 nr rc1] 25) = V1) (hb2 : Below V1.heap.size V1 w2)
    (e2 : w2.alloc (.cells #[.string o, .int .i64 m, .string r, .slice a2 n c2] 30) = V2) (hb3 : Below V2.heap.size V2 w3)
    (e3 : w3.alloc (.cells #[.string t, .slice ga3 ng gc3, .slice ra3 nr rc3] 25) = V3) (hb4 : Below V3.heap.size V3 w4)
    (e4 : w4.alloc (.cells #[.string t, .slice ga4 ng gc4, .slice ra4 nr rc4] 25) = V4) (hb5 : Below V4.heap.size V4 w5)
    (e5 : w5.alloc (.cells #[.string o, .int .i64 m, .string r, .slice a5 n c5] 30) = V5) (hb6 : Below V5.heap.size V5 w6)
    (e6 : w6.alloc (.cells #[.string o, .int .i64 m, .string r, .slice a6 n c6] 30) = V6) (hb8 : Below V6.heap.size V6 w8)
    (g1 : ReadsG w1 (.slice ga1 ng gc1) go) (r1 : ReadsG w1 (.slice ra1 nr rc1) re) (p2 : Reads w2 (.slice a2 n c2) l)
    (g3 : Lg V2.heap.size (.slice ga3 ng gc3) go w3) (r3 : Lg V2.heap.size (.slice ra3 nr rc3) re w3) (ap : ∀ b, (Value.slice ga3 ng gc3).ownBlock = some b → (Value.slice ra3 nr rc3).ownBlock ≠ some b)
    (g4 : Lg V3.heap.size (.slice ga4 ng gc4) go w4) (r4 : Lg V3.heap.size (.slice ra4 nr rc4) re w4)
    (q5 : ExtOf w5 V4.heap.size a5 c5 l) (q6 : ExtOf w6 V5.heap.size a6 c6 l) (hn : l.length = n) :
    ∃ ea, Pw w8 w8 V2.heap.size (.slice ga3 ng gc3) (.slice ra3 nr rc3) ea c5 go re l ∧ V2.heap.size ≤ w8.heap.size ∧ (l ≠ [] → ea = a5) ∧ (∀ b, eB ea = some b → b < w8.heap.size) ∧ w.heap.size ≤ V2.heap.size ∧ (∀ j, AK (.slice ga3 ng gc3) (.slice ra3 nr rc3) ea j → w.heap.size ≤ j) ∧ ∀ X, Kp (AK (.slice ga3 ng gc3) (.slice ra3 nr rc3) ea) w8 X → Sd w t go re ng nr o m r l n ga1 gc1 ra1 rc1 a2 c2 ga3 gc3 ra3 rc3 ga4 gc4 ra4 rc4 a5 c5 a6 c6 w1.heap.size w2.heap.size w3.heap.size w4.heap.size w5.heap.size w6.heap.size X := by
  subst e1 e2 e3 e4 e5 e6
  have b68 := Go.Proofs.YthdkbjbhjfiaiaaGreatDoor.nd.over (bel_alloc w6 (.cells #[.string o, .int .i64 m, .string r, .slice a6 n c6] 30)) hb8
  have b58 := Go.Proofs.YthdkbjbhjfiaiaaGreatDoor.nd.over (Go.Proofs.YthdkbjbhjfiaiaaGreatDoor.nd.over (bel_alloc w5 (.cells #[.string o, .int .i64 m, .string r, .slice a5 n c5] 30)) hb6) b68
  have b48 := Go.Proofs.YthdkbjbhjfiaiaaGreatDoor.nd.over (Go.Proofs.YthdkbjbhjfiaiaaGreatDoor.nd.over (bel_alloc w4 (.cells #[.string t, .slice ga4 ng gc4, .slice ra4 nr rc4] 25)) hb5) b58
  have b38 := Go.Proofs.YthdkbjbhjfiaiaaGreatDoor.nd.over (Go.Proofs.YthdkbjbhjfiaiaaGreatDoor.nd.over (bel_alloc w3 (.cells #[.string t, .slice ga3 ng gc3, .slice ra3 nr rc3] 25)) hb4) b48
  have b28 := Go.Proofs.YthdkbjbhjfiaiaaGreatDoor.nd.over (Go.Proofs.YthdkbjbhjfiaiaaGreatDoor.nd.over (bel_alloc w2 (.cells #[.string o, .int .i64 m, .string r, .slice a2 n c2] 30)) hb3) b38
  have b18 := Go.Proofs.YthdkbjbhjfiaiaaGreatDoor.nd.over (Go.Proofs.YthdkbjbhjfiaiaaGreatDoor.nd.over (bel_alloc w1 (.cells #[.string t, .slice ga1 ng gc1, .slice ra1 nr rc1] 25)) hb2) b28
  have z1 := hb1.size
  have z2 := hb2.size
  have z3 := hb3.size
  have z4 := hb4.size
  have z5 := hb5.size
  have z6 := hb6.size
  have z8 := hb8.size
  have k1 := heap_alloc_new w1 (.cells #[.string t, .slice ga1 ng gc1, .slice ra1 nr rc1] 25)
  have k2 := heap_alloc_new w2 (.cells #[.string o, .int .i64 m, .string r, .slice a2 n c2] 30)
  have k3 := heap_alloc_new w3 (.cells #[.string t, .slice ga3 ng gc3, .slice ra3 nr rc3] 25)
  have k4 := heap_alloc_new w4 (.cells #[.string t, .slice ga4 ng gc4, .slice ra4 nr rc4] 25)
  have k5 := heap_alloc_new w5 (.cells #[.string o, .int .i64 m, .string r, .slice a5 n c5] 30)
  have k6 := heap_alloc_new w6 (.cells #[.string o, .int .i64 m, .string r, .slice a6 n c6] 30)
  simp only [World.size_alloc] at z2 z3 z4 z5 z6 z8 g3 r3 g4 r4 q5 q6
  have hea : ∃ ea, ExtOf w5 (w4.heap.size + 1) ea c5 l ∧ (l ≠ [] → ea = a5) ∧ ∀ b, eB ea = some b → w4.heap.size + 1 ≤ b ∧ b < w5.heap.size := by
    rcases id q5 with ⟨rfl, h0⟩ | ⟨h0, g, x, y, z, rfl, h2, h3⟩
    · exact ⟨none, .inl ⟨rfl, h0⟩, fun h => absurd rfl h, fun b e => by cases e⟩
    · refine ⟨_, q5, fun _ => rfl, fun b e => ?_⟩
      obtain rfl := Option.some.inj e
      exact ⟨h2, (Array.getElem?_eq_some_iff.1 h3).1⟩
  obtain ⟨ea, q5', hea1, hea2⟩ := hea
  have hr : ∀ j, AK (.slice ga3 ng gc3) (.slice ra3 nr rc3) ea j → (w2.heap.size + 1 ≤ j ∧ j < w3.heap.size) ∨ (w4.heap.size + 1 ≤ j ∧ j < w5.heap.size) := by
    rintro j (h | h | h)
    · exact .inl (own_in g3 h)
    · exact .inl (own_in r3 h)
    · exact .inr (hea2 j h)
  refine ⟨ea, ⟨Kp.refl _ _, ?_, ?_, ?_, ap, ?_, ?_⟩, ?_, hea1, ?_, ?_, ?_, ?_⟩
  · simp only [World.size_alloc]; exact g3.later b38
  · simp only [World.size_alloc]; exact r3.later b38
  · simp only [World.size_alloc]; exact (q5'.later b58).mono (by omega)
  · intro b e1 e2
    have h1 := own_in g3 e1
    have h2 := hea2 b e2
    omega
  · intro b e1 e2
    have h1 := own_in r3 e1
    have h2 := hea2 b e2
    omega
  · simp only [World.size_alloc]; omega
  · intro b e
    have h2 := hea2 b e
    omega
  · simp only [World.size_alloc]; omega
  · intro j h
    have h2 := hr j h
    omega
  · intro X K
    have kb : ∀ B, B ≤ w2.heap.size + 1 → Below B w8 X := fun B hB => K.below (fun j h => by have h2 := hr j h; omega) (by omega)
    have blk : ∀ j, j < w8.heap.size → (j < w2.heap.size + 1 ∨ (w3.heap.size ≤ j ∧ j < w4.heap.size + 1) ∨ w5.heap.size ≤ j) → X.heap[j]? = w8.heap[j]? := fun j hj h => K.block j hj (fun a => by have h2 := hr j a; omega)
    refine ⟨(Go.Proofs.YthdkbjbhjfiaiaaGreatDoor.nd.over hb1 b18).trans (kb _ (by omega)), bo_new g1 r1 ((Go.Proofs.YthdkbjbhjfiaiaaGreatDoor.nd.over hb2 b28).trans (kb _ (by simp only [World.size_alloc]; omega))), bp_new p2 ((Go.Proofs.YthdkbjbhjfiaiaaGreatDoor.nd.over hb3 b38).trans (kb _ (by simp only [World.size_alloc]; omega))), ?_, ⟨?_, ?_, ?_⟩, ?_, ⟨?_, ?_⟩⟩
    · exact (blk _ (by omega) (by omega)).trans (((Go.Proofs.YthdkbjbhjfiaiaaGreatDoor.nd.over hb4 b48).block _ (by simp)).trans k3)
    · exact (blk _ (by omega) (by omega)).trans (((Go.Proofs.YthdkbjbhjfiaiaaGreatDoor.nd.over hb5 b58).block _ (by simp)).trans k4)
    · exact lg_reads_same g4 (fun j h1 h2 => (blk j (by omega) (by omega)).trans (b48.block j h2))
    · exact lg_reads_same r4 (fun j h1 h2 => (blk j (by omega) (by omega)).trans (b48.block j h2))
    · exact (blk _ (by omega) (by omega)).trans (((Go.Proofs.YthdkbjbhjfiaiaaGreatDoor.nd.over hb6 b68).block _ (by simp)).trans k5)
    · exact (blk _ (by omega) (by omega)).trans ((hb8.block _ (by simp)).trans k6)
    · have := (ext_rng (w' := X) q6 (fun j h1 h2 => (blk j (by omega) (by omega)).trans (b68.block j h2))).reads
      rw [hn] at this
      exact this
-- a mark is written
theorem Pw.markG {w8 w : World} {B g n cap ec k : Nat} {rv : Value} {ea : Option Addr} {gl rl : List Sg} {xl : List ByteArray} (s : ByteArray) (h : Pw w8 w B (.slice (some ⟨g, 0, none⟩) n cap) rv ea ec (fstM gl k s) rl xl) (hn : gl.length = n) (hk : k < n) : Pw w8 (((w.setCell ⟨g, k * 3, none⟩ (.string s)).setCell ⟨g, k * 3 + 1, none⟩ (.string ByteArray.empty)).setCell ⟨g, k * 3 + 2, none⟩ (.string ByteArray.empty)) B (.slice (some ⟨g, 0, none⟩) n cap) rv ea ec (fstM gl (k + 1) s) rl xl := by
  subst hn
  have e := fst_len gl k s (by omega)
  rw [← e] at h
  have := h.putG (by rw [e]; exact hk) (sgM s)
  rw [e, fst_set gl k s hk] at this
  exact this
theorem Pw.markR {w8 w : World} {B g n cap ec k : Nat} {gv : Value} {ea : Option Addr} {gl rl : List Sg} {xl : List ByteArray} (s : ByteArray) (h : Pw w8 w B gv (.slice (some ⟨g, 0, none⟩) n cap) ea ec gl (fstM rl k s) xl) (hn : rl.length = n) (hk : k < n) : Pw w8 (((w.setCell ⟨g, k * 3, none⟩ (.string s)).setCell ⟨g, k * 3 + 1, none⟩ (.string ByteArray.empty)).setCell ⟨g, k * 3 + 2, none⟩ (.string ByteArray.empty)) B gv (.slice (some ⟨g, 0, none⟩) n cap) ea ec gl (fstM rl (k + 1) s) xl := by
  subst hn
  have e := fst_len rl k s (by omega)
  rw [← e] at h
  have := h.putR (by rw [e]; exact hk) (sgM s)
  rw [e, fst_set rl k s hk] at this
  exact this
theorem Pw.markX {w8 w : World} {B g n ec k : Nat} {gv rv : Value} {gl rl : List Sg} {xl : List ByteArray} (s : ByteArray) (h : Pw w8 w B gv rv (some ⟨g, 3, none⟩) ec gl rl (fstT xl k s)) (hn : xl.length = n) (hk : k < n) : Pw w8 (w.setCell ⟨g, 3 + k, none⟩ (.string s)) B gv rv (some ⟨g, 3, none⟩) ec gl rl (fstT xl (k + 1) s) := by
  subst hn
  have e := fstT_len xl k s (by omega)
  have := h.putX (by rw [e]; exact hk) s
  rw [fstT_set xl k s hk] at this
  exact this
-- an element ahead of its writing
theorem lg_some {w : World} {B n cap : Nat} {a : Option Addr} {l : List Sg} (h : Lg B (.slice a n cap) l w) (hn : 0 < n) : ∃ g, a = some ⟨g, 0, none⟩ := by
  rcases h.2 with ⟨e, _⟩ | ⟨g, cap', cur, e, _⟩
  · injection e with _ e _; omega
  · injection e with e _ _; exact ⟨g, e⟩
theorem lg_at {w : World} {B g n cap k : Nat} {l : List Sg} (h : Lg B (.slice (some ⟨g, 0, none⟩) n cap) l w) (hn : l.length = n) (hk : k < n) : ∃ x : Sg, w.cell? ⟨g, k * 3, none⟩ = some (.string x.name) ∧ w.cell? ⟨g, k * 3 + 1, none⟩ = some (.string x.id) ∧ w.cell? ⟨g, k * 3 + 2, none⟩ = some (.string x.mac) ∧ ∀ j, w.frozen? ⟨g, j, none⟩ = false := by
  subst hn
  obtain ⟨a, c, e, h0 | ⟨b, off, rfl, hb, hc⟩⟩ := h.reads
  · omega
  · injection e with e _ _
    injection e with e
    injection e with e1 e2 _
    subst e1 e2
    obtain ⟨q1, q2, q3⟩ := hc k l[k] (List.getElem?_eq_getElem hk)
    simp only [Nat.zero_add] at q1 q2 q3
    refine ⟨_, q1, q2, q3, fun j => ?_⟩
    rcases h.2 with ⟨e, _⟩ | ⟨g', cap', cur, e, _, h3, _⟩
    · cases e
    · injection e with e _ _
      injection e with e
      injection e with e _ _
      subst e
      exact frozen_of_row _ _ j _ _ h3
theorem ext_some {w : World} {B c n : Nat} {a : Option Addr} {l : List ByteArray} (h : ExtOf w B a c l) (hn : l.length = n) (h0 : 0 < n) : ∃ g, a = some ⟨g, 3, none⟩ := by
  subst hn
  rcases h with ⟨rfl, _⟩ | ⟨_, g, x, y, z, e, _⟩
  · cases h0
  · exact ⟨g, e⟩
theorem ext_at {w : World} {B g c k : Nat} {l : List ByteArray} (h : ExtOf w B (some ⟨g, 3, none⟩) c l) (hk : k < l.length) : ∃ x, w.cell? ⟨g, 3 + k, none⟩ = some (.string x) ∧ w.frozen? ⟨g, 3 + k, none⟩ = false := by
  have h1 := h.reads
  obtain ⟨a, c', e, h0 | ⟨b, off, rfl, hc⟩⟩ := h1
  · omega
  · injection e with e _ _
    injection e with e
    injection e with e1 e2 _
    subst e1 e2
    refine ⟨_, hc k hk, ?_⟩
    rcases h with ⟨rfl, _⟩ | ⟨_, g', x, y, z, e, _, h3⟩
    · cases hk
    · injection e with e
      injection e with e _ _
      subst e
      exact frozen_of_row _ _ _ _ _ h3
-- the third list leaves the array that it came in
theorem Mk.firstX {w8 w w' : World} {B : Nat} {gv gl rv rl : Value} {ea : Option Addr} {ec ng nr nx mg mr : Nat} {s1 s2 s3 : ByteArray} (h : Mk w8 w B gv gl rv rl (.slice none 0 0) ea ec ng nr nx mg mr 0 s1 s2 s3) (hx : ∀ b, eB ea = some b → b < w8.heap.size) {v' : Value} (ho : w'.ownsRow w.heap.size 9 1 v' (nx + 1) ((List.replicate nx s3).map Value.string ++ [.string s3])) (hg : w.grownBy w' none) : Mk w8 w' B gv gl rv rl v' ea ec ng nr nx mg mr 1 s1 s2 s3 := by
  have hlt : ∀ b, v'.ownBlock = some b → w.heap.size ≤ b ∧ b < w'.heap.size := fun b e => own_in ho e
  have keep : ∀ {v : Value} {l : List Sg}, Lg B v l w → Lg B v l w' := fun hl => World.ownsRow.kept hl hg (by
    cases hc : Value.ownBlock _ with
    | none => exact .inl rfl
    | some c => exact .inr (by simp))
  refine ⟨kp_grown h.kp hg (fun b e => by cases e), h.b8, keep h.g0, keep h.g1, keep h.r0, keep h.r1, ?_, ?_, h.gb, h.rb, h.gr, ?_, ?_⟩
  · exact ext_same h.x0 (fun b e => hg.block b (Nat.lt_of_lt_of_le (hx b e) h.kp.size) (fun e2 => by cases e2))
  · refine .inr ?_
    rw [List.replicate_succ', List.map_append]
    exact own_down ho h.kp.size
  · rintro b e (f | f)
    · exact h.gx b e (.inl f)
    · have := h.g_lt e
      have := hlt b f
      omega
  · rintro b e (f | f)
    · exact h.rx b e (.inl f)
    · have := h.r_lt e
      have := hlt b f
      omega
-- marks are read
theorem rd_marks {w X : World} {a : Option Addr} {n c : Nat} {l : List Sg} {s : ByteArray} (h : ReadsG w (.slice a n c) l) (hl : l = sgs n s) (hb : Below w.heap.size w X) (h0 : 0 < n) : ∃ b off, a = some ⟨b, off, none⟩ ∧ ∀ k, k < n → X.cell? ⟨b, off + k * 3, none⟩ = some (.string s) := by
  subst hl
  obtain ⟨a', c', e, hh | ⟨b, off, rfl, _, hc⟩⟩ := h.later hb
  · rw [sgs_len] at hh; omega
  · injection e with e _ _
    refine ⟨b, off, e, fun k hk => ?_⟩
    exact (hc k (sgM s) (by unfold sgs; rw [List.getElem?_replicate, if_pos hk])).1
theorem rd_marksX {w X : World} {a : Option Addr} {n c : Nat} {s : ByteArray} (h : Reads w (.slice a n c) (List.replicate n s)) (hb : Below w.heap.size w X) (h0 : 0 < n) : ∃ b off, a = some ⟨b, off, none⟩ ∧ ∀ k, k < n → X.cell? ⟨b, off + k, none⟩ = some (.string s) := by
  obtain ⟨a', c', e, hh | ⟨b, off, rfl, hc⟩⟩ := h.later hb
  · rw [List.length_replicate] at hh; omega
  · injection e with e _ _
    refine ⟨b, off, e, fun k hk => ?_⟩
    have := hc k (by rw [List.length_replicate]; exact hk)
    rw [List.getD_eq_getElem?_getD, List.getElem?_replicate, if_pos hk] at this
    exact this
theorem row_reads {w : World} {B n : Nat} {v : Value} {l : List ByteArray} (h : w.ownsRow B 9 1 v n (l.map Value.string)) : ∃ a c, v = .slice a n c ∧ Reads w (.slice a n c) l := by
  have hn : l.length = n := by have := h.1; simpa using this
  subst hn
  rcases h.2 with ⟨rfl, h0⟩ | ⟨g, cap, cur, rfl, _⟩
  · exact ⟨none, 0, by rw [h0], _, _, rfl, .inl h0⟩
  · refine ⟨_, cap, rfl, _, _, rfl, .inr ⟨g, 0, rfl, fun i hi => ?_⟩⟩
    have := h.cells (g := g) rfl i (.string l[i]) (by rw [List.getElem?_map, List.getElem?_eq_getElem hi]; rfl)
    rw [List.getD_eq_getElem?_getD, List.getElem?_eq_getElem hi]
    cases i with
    | zero => simpa [Addr.add] using this
    | succ i => simpa [Addr.add] using this
end Go.Proofs.YthdkbjbhjfiaiaaGreatDoor.vh

namespace Go.Proofs.YthdkbjbhjfiaiaaGreatDoor.vh
open Go.RowKit Go.PlainAid Go.Shelf
open Go.Proofs.YthdkbjbhjfiaiaaGreatDoor.cp Go.Proofs.YthdkbjbhjfiaiaaGreatDoor.tj Go.Proofs.YthdkbjbhjfiaiaaGreatDoor.vc Go.Proofs.YthdkbjbhjfiaiaaGreatDoor.o1 Go.Proofs.YthdkbjbhjfiaiaaGreatDoor.o6 Go.Proofs.YthdkbjbhjfiaiaaGreatDoor.kp Go.Proofs.YthdkbjbhjfiaiaaGreatDoor.v4 Go.Proofs.YthdkbjbhjfiaiaaGreatDoor.v5 Go.Proofs.YthdkbjbhjfiaiaaGreatDoor.z2 Go.Proofs.YthdkbjbhjfiaiaaGreatDoor.vf Go.Proofs.YthdkbjbhjfiaiaaGreatDoor.vg Go.Proofs.YthdkbjbhjfiaiaaGreatDoor.vj
set_option linter.unusedVariables false

section
variable {w8 w w' : World} {B : Nat} {gv gl rv rl xl : Value} {ea : Option Addr} {ec ng nr nx mg mr mx : Nat} {s1 s2 s3 : ByteArray}
theorem Mk.ownG (h : Mk w8 w B gv gl rv rl xl ea ec ng nr nx mg mr mx s1 s2 s3) : w.ownsRow B 43 3 gl (ng + mg) (gcs (sgs (ng + mg) s1)) := by
  have := h.g1
  unfold Lg at this
  rw [sgs_len] at this
  exact this
theorem Mk.ownR (h : Mk w8 w B gv gl rv rl xl ea ec ng nr nx mg mr mx s1 s2 s3) : w.ownsRow B 43 3 rl (nr + mr) (gcs (sgs (nr + mr) s2)) := by
  have := h.r1
  unfold Lg at this
  rw [sgs_len] at this
  exact this
theorem Mk.ownX (h : Mk w8 w B gv gl rv rl xl ea ec ng nr nx mg mr mx s1 s2 s3) (h0 : mx ≠ 0) : w.ownsRow w8.heap.size 9 1 xl (nx + mx) ((List.replicate (nx + mx) s3).map Value.string) := by
  rcases h.x1 with ⟨e, _⟩ | e
  · exact absurd e h0
  · exact e
theorem Mk.big (h : Mk w8 w B gv gl rv rl xl ea ec ng nr nx mg mr mx s1 s2 s3) : B ≤ w.heap.size := Nat.le_trans h.b8 h.kp.size
end
theorem ext_cap {w : World} {B c : Nat} {a : Option Addr} {l : List ByteArray} (h : ExtOf w B a c l) : c = l.length := by
  rcases h with ⟨rfl, h⟩ | ⟨h, _⟩
  · exact h
  · exact h
theorem ext_reads {w : World} {B c n : Nat} {a a' : Option Addr} {l : List ByteArray} (h : ExtOf w B a c l) (e : l ≠ [] → a = a') (hn : l.length = n) : Reads w (.slice a' n c) l := by
  subst hn
  by_cases h0 : l = []
  · subst h0
    exact ⟨a', c, rfl, .inl rfl⟩
  · obtain rfl := e h0
    exact h.reads
theorem ext_holds {w : World} {B c : Nat} {a a' : Option Addr} {l : List ByteArray} (h : ExtOf w B a c l) (e : l ≠ [] → a = a') : ∀ b, a' = some b → ∀ j u, (l.map Value.string)[j]? = some u → w.cell? (b.add j) = some u := by
  intro b hb j u hu
  have hne : l ≠ [] := fun h0 => by subst h0; simp at hu
  obtain rfl := e hne
  rcases h with ⟨rfl, _⟩ | ⟨_, g, x, y, z, rfl, _, h3⟩
  · exact absurd rfl hne
  · obtain rfl := Option.some.inj hb
    have ea : (Addr.add ⟨g, 3, none⟩ j) = ⟨g, 3 + j, none⟩ := by cases j <;> simp [Addr.add]
    rw [ea, cell_of_row _ _ _ _ _ _ h3, Go.Proofs.YthdkbjbhjfiaiaaGreatDoor.vb.srow_get, Nat.add_comm 3 j, ← hu]
    rw [List.getElem?_map]
    rfl
end Go.Proofs.YthdkbjbhjfiaiaaGreatDoor.vh
namespace Go.Proofs.YthdkbjbhjfiaiaaGreatDoor.vm
open Go.RowKit Go.PlainAid Go.Shelf
open Go.Proofs.YthdkbjbhjfiaiaaGreatDoor.ft Go.Proofs.YthdkbjbhjfiaiaaGreatDoor.pj Go.Proofs.YthdkbjbhjfiaiaaGreatDoor.rf Go.Proofs.YthdkbjbhjfiaiaaGreatDoor.mo Go.Proofs.YthdkbjbhjfiaiaaGreatDoor.tb Go.Proofs.YthdkbjbhjfiaiaaGreatDoor.tc Go.Proofs.YthdkbjbhjfiaiaaGreatDoor.tj Go.Proofs.YthdkbjbhjfiaiaaGreatDoor.vc Go.Proofs.YthdkbjbhjfiaiaaGreatDoor.wb Go.Proofs.YthdkbjbhjfiaiaaGreatDoor.n4 Go.Proofs.YthdkbjbhjfiaiaaGreatDoor.o1 Go.Proofs.YthdkbjbhjfiaiaaGreatDoor.o6 Go.Proofs.YthdkbjbhjfiaiaaGreatDoor.kp Go.Proofs.YthdkbjbhjfiaiaaGreatDoor.q2 Go.Proofs.YthdkbjbhjfiaiaaGreatDoor.q5 Go.Proofs.YthdkbjbhjfiaiaaGreatDoor.t3 Go.Proofs.YthdkbjbhjfiaiaaGreatDoor.v2 Go.Proofs.YthdkbjbhjfiaiaaGreatDoor.v4 Go.Proofs.YthdkbjbhjfiaiaaGreatDoor.v5 Go.Proofs.YthdkbjbhjfiaiaaGreatDoor.v8 Go.Proofs.YthdkbjbhjfiaiaaGreatDoor.z1 Go.Proofs.YthdkbjbhjfiaiaaGreatDoor.z2 Go.Proofs.YthdkbjbhjfiaiaaGreatDoor.z6 Go.Proofs.YthdkbjbhjfiaiaaGreatDoor.vf Go.Proofs.YthdkbjbhjfiaiaaGreatDoor.vg Go.Proofs.YthdkbjbhjfiaiaaGreatDoor.vh Go.Proofs.YthdkbjbhjfiaiaaGreatDoor.vj Go.Proofs.YthdkbjbhjfiaiaaGreatDoor.vk
set_option linter.unusedVariables false

set_option maxRecDepth 8000 in
set_option maxHeartbeats 25600000 in
theorem law_fresh (x y : ByteArray) (hx : x.size ≤ 1048576) (hy : y.size ≤ 1048576) (kv : Value) (ks : List Ky) (w : World) (hk : ReadsY w kv ks) (hl : ks.length ≤ 4398046511104) (hs : ∀ k ∈ ks, k.1.size ≤ 140737488351232 ∧ k.2.size ≤ 140737488351232) (T : Hid (Tab4 w)) (N : Hid (NumW w)) :
    Calls Tryz.prog 3 #[.string x, kv, .string y] w fun e w' => e = .returned (.bool true) ∧ Below w.heap.size w w' := by
  obtain ⟨RLx, hGx, _⟩ := gives_ex x
  have CF := othersC x y hx hy kv ks
  have CD := fun W (hW : Below w.heap.size w W) => openD x RLx hGx kv ks W (hk.later hW) hl hs (T.out.down hW)
  have CO := fun W (hW : Below w.heap.size w W) => openF x (by omega) RLx hGx kv ks W (hk.later hW) hl hs (T.out.down hW).t
  have CQ := fun W (hW : Below w.heap.size w W) => parseC2 y (by omega) W (N.out.down hW)
  have CP := fun W (hW : Below w.heap.size w W) => parseD2 y (by omega) W
  have CFF : Hid (∀ W, Below w.heap.size w W → Calls Tryz.prog 9 #[.string x, kv, .string y] W fun e w' => e = .returned (.bool true) ∧ Below W.heap.size W w') := fun W hW => CF W (hk.later hW) hl hs (T.out.down hW) (N.out.down hW)
  have zx := opB_len x RLx ks
  have yy := pv_len y
  generalize opB x RLx ks = O at *
  generalize pv y = P at *
  generalize pvF y = F at *
  obtain ⟨⟨t, go, re⟩, E⟩ := O
  obtain ⟨o, m, r, l⟩ := P
  obtain ⟨ng, HNG⟩ : ∃ n, Hid (go.length = n) := ⟨_, rfl⟩
  obtain ⟨nr, HNR⟩ : ∃ n, Hid (re.length = n) := ⟨_, rfl⟩
  obtain ⟨n, HN⟩ : ∃ n, Hid (l.length = n) := ⟨_, rfl⟩
  have zg : ng ≤ 1000000 := by rw [← HNG.out]; exact zx.1
  have zr : nr ≤ 1000000 := by rw [← HNR.out]; exact zx.2
  have zn : n ≤ 1048576 := by rw [← HN.out]; have : l.length ≤ y.size := yy; omega
  have D : Hid (∀ W, Below w.heap.size w W → Calls Tryz.prog 4 #[.string x, kv] W fun e w' => OpG w' t go re ng nr E e ∧ Below W.heap.size W w') := fun W hW => (CD W hW).mono (fun e w' h => ⟨opg_q h.1 HNG.out HNR.out, h.2⟩)
  have A : Hid (∀ W, Below w.heap.size w W → Calls Tryz.prog 6 #[.string x, kv] W fun e w' => OpH W.heap.size w' t go re ng nr E e ∧ Below W.heap.size W w') := fun W hW => (CO W hW).mono (fun e w' h => ⟨oph_f h.1 HNG.out HNR.out, h.2⟩)
  have Q : Hid (∀ W, Below w.heap.size w W → Calls Tryz.prog 7 #[.string y] W fun e w' => PtH W.heap.size w' o m r l n F e ∧ Below W.heap.size W w') := fun W hW => (CQ W hW).mono (by
    rintro e w' ⟨⟨a, c, rfl, h⟩, hb⟩
    simp only [HN.out]
    exact ⟨⟨a, c, rfl, h, by rw [← HN.out]; exact h.reads⟩, hb⟩)
  have P : Hid (∀ W, Below w.heap.size w W → Calls Tryz.prog 5 #[.string y] W fun e w' => PtG w' o m r l n F e ∧ Below W.heap.size W w') := fun W hW => (CP W hW).mono (by
    rintro e w' ⟨⟨a, c, rfl, h⟩, hb⟩
    simp only [HN.out]
    exact ⟨⟨a, c, rfl, by rw [← HN.out]; exact h⟩, hb⟩)
  clear CD CO CQ CP CF zx yy hGx hk hl hs hx hy T N
  have B0 : Hid (Below w.heap.size w w) := Below.refl _ _
  obtain ⟨i0, hi0, hi1, hi2, hi3⟩ := info_parts infoG
  have HI : Hid (Tryz.prog.info? 43 = some i0 ∧ i0.zero = some (.agg #[.string ⟨#[]⟩, .string ⟨#[]⟩, .string ⟨#[]⟩]) ∧ i0.size = 3 ∧ i0.bytes = 48) := ⟨hi0, hi1, hi2, hi3⟩
  obtain ⟨i9, hj0, hj1, hj2, hj3⟩ := info_parts Go.Proofs.YthdkbjbhjfiaiaaGreatDoor.yta.infoS
  have HJ : Hid (Tryz.prog.info? 9 = some i9 ∧ i9.zero = some (.string ⟨#[]⟩) ∧ i9.size = 1 ∧ i9.bytes = 16) := ⟨hj0, hj1, hj2, hj3⟩
  clear hi0 hi1 hi2 hi3 hj0 hj1 hj2 hj3
  go_enter Tryz.func3, Tryz.ntmps3
  have hEE : (E == E) = true := beq_iff_eq.2 rfl
  have hFF : (F == F) = true := beq_iff_eq.2 rfl
  go_wp2_with fail
  refine (D.out w B0.out).mono ?_
  rintro e w1 ⟨⟨ga1, gc1, ra1, rc1, rfl, h1, h2⟩, hb⟩
  obtain ⟨V1, HV1⟩ : ∃ V, Hid (w1.alloc (.cells #[.string t, .slice ga1 ng gc1, .slice ra1 nr rc1] 25) = V) := ⟨_, rfl⟩
  obtain ⟨b1, HB1⟩ : ∃ b, Hid (w1.heap.size = b) := ⟨_, rfl⟩
  have G1 : Hid (_ ∧ _) := ⟨h1, h2⟩
  have HW1 : Hid (Below w.heap.size w w1) := hb
  have B1 : Hid (Below w.heap.size w V1) := by rw [← HV1.out]; exact Go.Proofs.YthdkbjbhjfiaiaaGreatDoor.nd.over (Go.Proofs.YthdkbjbhjfiaiaaGreatDoor.nd.over B0.out hb) ((Below.refl _ _).alloc (Nat.le_refl _) _)
  clear h1 h2 hb
  go_upto_region 2 with fail
  rw [HV1.out, HB1.out]
  go_wp2_with fail
  refine (P.out V1 B1.out).mono ?_
  rintro e w2 ⟨⟨a2, c2, rfl, h1⟩, hb⟩
  obtain ⟨V2, HV2⟩ : ∃ V, Hid (w2.alloc (.cells #[.string o, .int .i64 m, .string r, .slice a2 n c2] 30) = V) := ⟨_, rfl⟩
  obtain ⟨b2, HB2⟩ : ∃ b, Hid (w2.heap.size = b) := ⟨_, rfl⟩
  have G2 : Hid (_) := h1
  have HW2 : Hid (Below V1.heap.size V1 w2) := hb
  have B2 : Hid (Below w.heap.size w V2) := by rw [← HV2.out]; exact Go.Proofs.YthdkbjbhjfiaiaaGreatDoor.nd.over (Go.Proofs.YthdkbjbhjfiaiaaGreatDoor.nd.over B1.out hb) ((Below.refl _ _).alloc (Nat.le_refl _) _)
  clear h1 hb
  go_upto_region 3 with fail
  rw [HV2.out, HB2.out]
  go_wp2_with fail
  refine (A.out V2 B2.out).mono ?_
  rintro e w3 ⟨⟨ga3, gc3, ra3, rc3, rfl, h1, h2, h3⟩, hb⟩
  obtain ⟨V3, HV3⟩ : ∃ V, Hid (w3.alloc (.cells #[.string t, .slice ga3 ng gc3, .slice ra3 nr rc3] 25) = V) := ⟨_, rfl⟩
  obtain ⟨b3, HB3⟩ : ∃ b, Hid (w3.heap.size = b) := ⟨_, rfl⟩
  have G3 : Hid (_ ∧ _ ∧ _) := ⟨h1, h2, h3⟩
  have HW3 : Hid (Below V2.heap.size V2 w3) := hb
  have B3 : Hid (Below w.heap.size w V3) := by rw [← HV3.out]; exact Go.Proofs.YthdkbjbhjfiaiaaGreatDoor.nd.over (Go.Proofs.YthdkbjbhjfiaiaaGreatDoor.nd.over B2.out hb) ((Below.refl _ _).alloc (Nat.le_refl _) _)
  clear h1 h2 h3 hb
  go_upto_region 4 with fail
  rw [HV3.out, HB3.out]
  go_wp2_with fail
  refine (A.out V3 B3.out).mono ?_
  rintro e w4 ⟨⟨ga4, gc4, ra4, rc4, rfl, h1, h2, h3⟩, hb⟩
  obtain ⟨V4, HV4⟩ : ∃ V, Hid (w4.alloc (.cells #[.string t, .slice ga4 ng gc4, .slice ra4 nr rc4] 25) = V) := ⟨_, rfl⟩
  obtain ⟨b4, HB4⟩ : ∃ b, Hid (w4.heap.size = b) := ⟨_, rfl⟩
  have G4 : Hid (_ ∧ _ ∧ _) := ⟨h1, h2, h3⟩
  have HW4 : Hid (Below V3.heap.size V3 w4) := hb
  have B4 : Hid (Below w.heap.size w V4) := by rw [← HV4.out]; exact Go.Proofs.YthdkbjbhjfiaiaaGreatDoor.nd.over (Go.Proofs.YthdkbjbhjfiaiaaGreatDoor.nd.over B3.out hb) ((Below.refl _ _).alloc (Nat.le_refl _) _)
  clear h1 h2 h3 hb
  go_upto_region 5 with fail
  rw [HV4.out, HB4.out]
  go_wp2_with fail
  refine (Q.out V4 B4.out).mono ?_
  rintro e w5 ⟨⟨a5, c5, rfl, h1, h2⟩, hb⟩
  obtain ⟨V5, HV5⟩ : ∃ V, Hid (w5.alloc (.cells #[.string o, .int .i64 m, .string r, .slice a5 n c5] 30) = V) := ⟨_, rfl⟩
  obtain ⟨b5, HB5⟩ : ∃ b, Hid (w5.heap.size = b) := ⟨_, rfl⟩
  have G5 : Hid (_) := h1
  have HW5 : Hid (Below V4.heap.size V4 w5) := hb
  have B5 : Hid (Below w.heap.size w V5) := by rw [← HV5.out]; exact Go.Proofs.YthdkbjbhjfiaiaaGreatDoor.nd.over (Go.Proofs.YthdkbjbhjfiaiaaGreatDoor.nd.over B4.out hb) ((Below.refl _ _).alloc (Nat.le_refl _) _)
  clear h1 h2 hb
  go_upto_region 6 with fail
  rw [HV5.out, HB5.out]
  go_wp2_with fail
  refine (Q.out V5 B5.out).mono ?_
  rintro e w6 ⟨⟨a6, c6, rfl, h1, h2⟩, hb⟩
  obtain ⟨V6, HV6⟩ : ∃ V, Hid (w6.alloc (.cells #[.string o, .int .i64 m, .string r, .slice a6 n c6] 30) = V) := ⟨_, rfl⟩
  obtain ⟨b6, HB6⟩ : ∃ b, Hid (w6.heap.size = b) := ⟨_, rfl⟩
  have G6 : Hid (_) := h1
  have HW6 : Hid (Below V5.heap.size V5 w6) := hb
  have B6 : Hid (Below w.heap.size w V6) := by rw [← HV6.out]; exact Go.Proofs.YthdkbjbhjfiaiaaGreatDoor.nd.over (Go.Proofs.YthdkbjbhjfiaiaaGreatDoor.nd.over B5.out hb) ((Below.refl _ _).alloc (Nat.le_refl _) _)
  clear h1 h2 hb
  go_upto_region 7 with fail
  rw [HV6.out, HB6.out]
  have SO := fun X (h : Below V6.heap.size V6 X) => side_of t go re ng nr o m r l n ga1 gc1 ra1 rc1 a2 c2 ga3 gc3 ra3 rc3 ga4 gc4 ra4 rc4 a5 c5 a6 c6 HW1.out HV1.out HW2.out HV2.out HW3.out HV3.out HW4.out HV4.out HW5.out HV5.out HW6.out HV6.out h G1.out.1 G1.out.2 G2.out G3.out.1 G3.out.2.1 G3.out.2.2 G4.out.1 G4.out.2.1 G5.out G6.out HN.out
  obtain ⟨B, HBB⟩ : ∃ B, Hid (V2.heap.size = B) := ⟨_, rfl⟩
  rw [HB1.out, HB2.out, HB3.out, HB4.out, HB5.out, HB6.out, HBB.out] at SO
  have HSO : Hid (∀ X, _ → _) := SO
  have B6' : Hid (Below w.heap.size w V6) := B6.out
  clear SO G1 G2 G3 G4 G5 G6 HW1 HW2 HW3 HW4 HW5 HW6 HV1 HV2 HV3 HV4 HV5 HV6 B0 B1 B2 B3 B4 B5 B6 HBB HB1 HB2 HB3 HB4 HB5 HB6
  go_upto_region 9 with (first | (go_at_call 8; refine (numC _ _).mono ?_; rintro e wz ⟨rfl, hz⟩; rw [hz]; clear hz wz) | (go_at_call 9; refine (CFF.out V6 B6'.out).mono ?_; rintro e x0 ⟨rfl, hb⟩; have K0 : Hid (Below V6.heap.size V6 x0) := hb; clear hb))
  obtain ⟨ea, pw, e1, hea, e2, e3, e4, hsd⟩ := HSO.out x0 K0.out
  have sd := hsd x0 (Kp.refl _ _)
  have a0 := cell_of_row _ _ 0 _ _ _ sd.x3
  have a1 := cell_of_row _ _ 1 _ _ _ sd.x3
  have a2 := cell_of_row _ _ 2 _ _ _ sd.x3
  have d0 := cell_of_row _ _ 0 _ _ _ sd.x1.1
  have d1 := cell_of_row _ _ 1 _ _ _ sd.x1.1
  have d2 := cell_of_row _ _ 2 _ _ _ sd.x1.1
  have CC : Hid (Calls _ _ _ _ _) := openedN t go re ng nr HNG.out HNR.out zg zr _ _ _ _ _ _ _ _ x0 pw.g.reads pw.r.reads sd.x1.2.1 sd.x1.2.2
  clear sd hsd hea pw e1 e2 e3 e4 ea
  go_wp2_with fail
  refine CC.out.mono ?_
  rintro e x1 ⟨rfl, hb⟩
  have K1 : Hid (Below V6.heap.size V6 x1) := Go.Proofs.YthdkbjbhjfiaiaaGreatDoor.nd.over K0.out hb
  clear hb CC a0 d0 a1 d1 a2 d2
  obtain ⟨ea, pw, e1, hea, e2, e3, e4, hsd⟩ := HSO.out x1 K1.out
  have sd := hsd x1 (Kp.refl _ _)
  have a0 := cell_of_row _ _ 0 _ _ _ sd.x4.1
  have a1 := cell_of_row _ _ 1 _ _ _ sd.x4.1
  have a2 := cell_of_row _ _ 2 _ _ _ sd.x4.1
  have d0 := cell_of_row _ _ 0 _ _ _ sd.x1.1
  have d1 := cell_of_row _ _ 1 _ _ _ sd.x1.1
  have d2 := cell_of_row _ _ 2 _ _ _ sd.x1.1
  have CC : Hid (Calls _ _ _ _ _) := openedN t go re ng nr HNG.out HNR.out zg zr _ _ _ _ _ _ _ _ x1 sd.x4.2.1 sd.x4.2.2 sd.x1.2.1 sd.x1.2.2
  clear sd hsd hea pw e1 e2 e3 e4 ea
  go_wp2_with fail
  refine CC.out.mono ?_
  rintro e x2 ⟨rfl, hb⟩
  have K2 : Hid (Below V6.heap.size V6 x2) := Go.Proofs.YthdkbjbhjfiaiaaGreatDoor.nd.over K1.out hb
  clear hb CC a0 d0 a1 d1 a2 d2
  obtain ⟨ea, pw, e1, hea, e2, e3, e4, hsd⟩ := HSO.out x2 K2.out
  have sd := hsd x2 (Kp.refl _ _)
  have a0 := cell_of_row _ _ 0 _ _ _ sd.x5
  have a1 := cell_of_row _ _ 1 _ _ _ sd.x5
  have a2 := cell_of_row _ _ 2 _ _ _ sd.x5
  have a3 := cell_of_row _ _ 3 _ _ _ sd.x5
  have d0 := cell_of_row _ _ 0 _ _ _ sd.x2.1
  have d1 := cell_of_row _ _ 1 _ _ _ sd.x2.1
  have d2 := cell_of_row _ _ 2 _ _ _ sd.x2.1
  have d3 := cell_of_row _ _ 3 _ _ _ sd.x2.1
  have CC : Hid (Calls _ _ _ _ _) := alikeN o m r l n HN.out (by omega) _ _ _ _ x2 (ext_reads pw.x hea HN.out) sd.x2.2
  clear sd hsd hea pw e1 e2 e3 e4 ea
  go_wp2_with fail
  refine CC.out.mono ?_
  rintro e x3 ⟨rfl, hb⟩
  have K3 : Hid (Below V6.heap.size V6 x3) := Go.Proofs.YthdkbjbhjfiaiaaGreatDoor.nd.over K2.out hb
  clear hb CC a0 d0 a1 d1 a2 d2 a3 d3
  obtain ⟨ea, pw, e1, hea, e2, e3, e4, hsd⟩ := HSO.out x3 K3.out
  have sd := hsd x3 (Kp.refl _ _)
  have a0 := cell_of_row _ _ 0 _ _ _ sd.x6.1
  have a1 := cell_of_row _ _ 1 _ _ _ sd.x6.1
  have a2 := cell_of_row _ _ 2 _ _ _ sd.x6.1
  have a3 := cell_of_row _ _ 3 _ _ _ sd.x6.1
  have d0 := cell_of_row _ _ 0 _ _ _ sd.x2.1
  have d1 := cell_of_row _ _ 1 _ _ _ sd.x2.1
  have d2 := cell_of_row _ _ 2 _ _ _ sd.x2.1
  have d3 := cell_of_row _ _ 3 _ _ _ sd.x2.1
  have CC : Hid (Calls _ _ _ _ _) := alikeN o m r l n HN.out (by omega) _ _ _ _ x3 sd.x6.2 sd.x2.2
  clear sd hsd hea pw e1 e2 e3 e4 ea
  go_wp2_with fail
  refine CC.out.mono ?_
  rintro e x4 ⟨rfl, hb⟩
  have K4 : Hid (Below V6.heap.size V6 x4) := Go.Proofs.YthdkbjbhjfiaiaaGreatDoor.nd.over K3.out hb
  clear hb CC a0 d0 a1 d1 a2 d2 a3 d3
  obtain ⟨ea, hpw, hbb, hea, hlt0, hwb, hak, hsd⟩ := HSO.out x4 K4.out
  have HPW : Hid (Pw x4 x4 B (.slice ga3 ng gc3) (.slice ra3 nr rc3) ea c5 go re l) := hpw
  have HBB : Hid (B ≤ x4.heap.size) := hbb
  have HEA : Hid (l ≠ [] → ea = a5) := hea
  have HLT : Hid (∀ b, eB ea = some b → b < x4.heap.size) := hlt0
  have HSD : Hid (∀ X, Kp (AK (.slice ga3 ng gc3) (.slice ra3 nr rc3) ea) x4 X → _) := hsd
  have hc5 : c5 = n := (ext_cap hpw.x).trans HN.out
  clear hpw hbb hea hlt0 hwb hak hsd HSO K0 K1 K2 K3 K4 B6'
  subst hc5
  go_upto_region 12 with fail
  go_loopw [19] (fun i wr => ∃ k : Nat, k ≤ ng ∧ i = .int .i64 k ∧ Hid (Pw x4 wr B (.slice ga3 ng gc3) (.slice ra3 nr rc3) ea c5 (fstM go k (⟨#[49]⟩ : ByteArray)) re l)) (fun i _ => (ng - intOf i).toNat)
  case atStart => exact ⟨0, by omega, rfl, HPW.out⟩
  case round =>
    obtain ⟨k, hk, rfl, HP⟩ := hrel
    have sd := HSD.out wr HP.out.kp
    have c1 := cell_of_row _ _ 1 _ _ _ sd.x3
    clear sd
    by_cases hlt : k < ng
    · have hlt' : (k : Int) < ng := by omega
      obtain ⟨g, rfl⟩ := lg_some HP.out.g (by omega)
      obtain ⟨z, p0, p1, p2, fz⟩ := lg_at (k := k) HP.out.g (by rw [fst_len _ _ _ (by rw [HNG.out]; exact hk), HNG.out]) hlt
      have f0 := fz (k * 3)
      have f1 := fz (k * 3 + 1)
      have f2 := fz (k * 3 + 2)
      clear fz
      go_wp2
      go_roundw
      case rel => exact ⟨k + 1, by omega, by go_num, HP.out.markG (⟨#[49]⟩ : ByteArray) HNG.out hlt⟩
      case measure => simp [intOf]; omega
    have hlt' : ¬ (k : Int) < ng := by omega
    obtain rfl : ng = k := by omega
    obtain ⟨u1, rfl⟩ : ∃ u, u = wr := ⟨_, rfl⟩
    have HP1 : Hid (Pw x4 u1 B (.slice ga3 ng gc3) (.slice ra3 nr rc3) ea c5 (sgs ng (⟨#[49]⟩ : ByteArray)) re l) := by
      have e := fst_all go (⟨#[49]⟩ : ByteArray)
      rw [HNG.out] at e
      have h := HP.out
      rw [e] at h
      exact h
    clear HP hk hlt
    go_upto_region 16 with fail
    clear c1 hlt'
    go_loopw [20] (fun i wr => ∃ k : Nat, k ≤ nr ∧ i = .int .i64 k ∧ Hid (Pw x4 wr B (.slice ga3 ng gc3) (.slice ra3 nr rc3) ea c5 (sgs ng (⟨#[49]⟩ : ByteArray)) (fstM re k (⟨#[50]⟩ : ByteArray)) l)) (fun i _ => (nr - intOf i).toNat)
    case atStart => exact ⟨0, by omega, rfl, HP1.out⟩
    case round =>
      obtain ⟨k, hk, rfl, HP⟩ := hrel
      have sd := HSD.out wr HP.out.kp
      have c1 := cell_of_row _ _ 2 _ _ _ sd.x3
      clear sd
      by_cases hlt : k < nr
      · have hlt' : (k : Int) < nr := by omega
        obtain ⟨g, rfl⟩ := lg_some HP.out.r (by omega)
        obtain ⟨z, p0, p1, p2, fz⟩ := lg_at (k := k) HP.out.r (by rw [fst_len _ _ _ (by rw [HNR.out]; exact hk), HNR.out]) hlt
        have f0 := fz (k * 3)
        have f1 := fz (k * 3 + 1)
        have f2 := fz (k * 3 + 2)
        clear fz
        go_wp2
        go_roundw
        case rel => exact ⟨k + 1, by omega, by go_num, HP.out.markR (⟨#[50]⟩ : ByteArray) HNR.out hlt⟩
        case measure => simp [intOf]; omega
      have hlt' : ¬ (k : Int) < nr := by omega
      obtain rfl : nr = k := by omega
      obtain ⟨u2, rfl⟩ : ∃ u, u = wr := ⟨_, rfl⟩
      have HP2 : Hid (Pw x4 u2 B (.slice ga3 ng gc3) (.slice ra3 nr rc3) ea c5 (sgs ng (⟨#[49]⟩ : ByteArray)) (sgs nr (⟨#[50]⟩ : ByteArray)) l) := by
        have e := fst_all re (⟨#[50]⟩ : ByteArray)
        rw [HNR.out] at e
        have h := HP.out
        rw [e] at h
        exact h
      clear HP hk hlt
      go_upto_region 20 with fail
      clear c1 hlt'
      go_loopw [21] (fun i wr => ∃ k : Nat, k ≤ c5 ∧ i = .int .i64 k ∧ Hid (Pw x4 wr B (.slice ga3 ng gc3) (.slice ra3 nr rc3) ea c5 (sgs ng (⟨#[49]⟩ : ByteArray)) (sgs nr (⟨#[50]⟩ : ByteArray)) (fstT l k (⟨#[51]⟩ : ByteArray)))) (fun i _ => (c5 - intOf i).toNat)
      case atStart => exact ⟨0, by omega, rfl, HP2.out⟩
      case round =>
        obtain ⟨k, hk, rfl, HP⟩ := hrel
        have sd := HSD.out wr HP.out.kp
        have c1 := cell_of_row _ _ 3 _ _ _ sd.x5
        clear sd
        by_cases hlt : k < c5
        · have hlt' : (k : Int) < c5 := by omega
          have hll : (fstT l k (⟨#[51]⟩ : ByteArray)).length = c5 := by rw [fstT_len _ _ _ (by rw [HN.out]; exact hk), HN.out]
          obtain ⟨g, hg⟩ := ext_some HP.out.x hll (by omega)
          have e5 : a5 = some ⟨g, 3, none⟩ := (HEA.out (fun e => by have := HN.out; rw [e] at this; simp at this; omega)).symm.trans hg
          subst hg
          subst e5
          obtain ⟨z, p0, f0⟩ := ext_at (k := k) HP.out.x (by rw [hll]; exact hlt)
          go_wp2
          go_roundw
          case rel => exact ⟨k + 1, by omega, by go_num, HP.out.markX (⟨#[51]⟩ : ByteArray) HN.out hlt⟩
          case measure => simp [intOf]; omega
        have hlt' : ¬ (k : Int) < c5 := by omega
        obtain rfl : c5 = k := by omega
        obtain ⟨u3, rfl⟩ : ∃ u, u = wr := ⟨_, rfl⟩
        have HP3 : Hid (Pw x4 u3 B (.slice ga3 ng gc3) (.slice ra3 nr rc3) ea c5 (sgs ng (⟨#[49]⟩ : ByteArray)) (sgs nr (⟨#[50]⟩ : ByteArray)) (List.replicate c5 (⟨#[51]⟩ : ByteArray))) := by
          have e := fstT_all l (⟨#[51]⟩ : ByteArray)
          rw [HN.out] at e
          have h := HP.out
          rw [e] at h
          exact h
        clear HP hk hlt
        go_upto_region 23 with fail
        clear c1 hlt'
        have M0 : Hid (Mk x4 u3 B (.slice ga3 ng gc3) (.slice ga3 ng gc3) (.slice ra3 nr rc3) (.slice ra3 nr rc3) (.slice none 0 0) ea c5 ng nr c5 0 0 0 (⟨#[49]⟩ : ByteArray) (⟨#[50]⟩ : ByteArray) (⟨#[51]⟩ : ByteArray)) := Mk.start HP3.out HBB.out
        have HNO : Hid (a5 = none → c5 = 0 ∧ c5 = 0) := by
          intro e
          by_cases h0 : c5 = 0
          · exact ⟨h0, h0⟩
          · obtain ⟨g, hg⟩ := ext_some M0.out.x0 (by rw [List.length_replicate]) (by omega)
            have h2 := HEA.out (fun e => by have := HN.out; rw [e] at this; simp at this; omega)
            rw [hg, e] at h2
            cases h2
        have HEX : Hid (List.replicate c5 (⟨#[51]⟩ : ByteArray) ≠ [] → ea = a5) := fun e => HEA.out (fun h => e (by have := HN.out; rw [h] at this; simp at this; rw [← this]; rfl))
        have sd := HSD.out u3 M0.out.kp
        have c1 := cell_of_row _ _ 1 _ _ _ sd.x3
        clear sd
        have MA : Hid (Mk x4 (u3.alloc (.cells #[.string (⟨#[49]⟩ : ByteArray), .string ⟨#[]⟩, .string ⟨#[]⟩] 43)) B (.slice ga3 ng gc3) (.slice ga3 ng gc3) (.slice ra3 nr rc3) (.slice ra3 nr rc3) (.slice none 0 0) ea c5 ng nr c5 0 0 0 (⟨#[49]⟩ : ByteArray) (⟨#[50]⟩ : ByteArray) (⟨#[51]⟩ : ByteArray)) := M0.out.alloc _
        go_upto_region 24 with (at_builtin; refine Go.Proofs.YthdkbjbhjfiaiaaGreatDoor.vs.wpList_appS rfl (.tmp 141) (.tmp 143) 23 rfl B 3 43 i0 (.agg #[.string ⟨#[]⟩, .string ⟨#[]⟩, .string ⟨#[]⟩]) 48 Tryz.underlying23 HI.out.1 HI.out.2.1 HI.out.2.2.1 HI.out.2.2.2 rfl (by decide) (.slice ga3 ng gc3) (ng + 0) _ rfl MA.out.ownG ⟨u3.heap.size, 0, none⟩ 1 1 [.string (⟨#[49]⟩ : ByteArray), .string ⟨#[]⟩, .string ⟨#[]⟩] rfl rfl (new_three _ _ _ _ _) (one_three _ _ _) (by unfold maxLen; omega) (by omega) MA.out.big ?_; intro v1 q1 ho hg hb hp; have M1 : Hid (Mk x4 q1 B (.slice ga3 ng gc3) v1 (.slice ra3 nr rc3) (.slice ra3 nr rc3) (.slice none 0 0) ea c5 ng nr c5 1 0 0 (⟨#[49]⟩ : ByteArray) (⟨#[50]⟩ : ByteArray) (⟨#[51]⟩ : ByteArray)) := MA.out.stepG HLT.out ho hg hb hp; clear ho hg hb hp)
        clear c1 MA M0
        have sd := HSD.out q1 M1.out.kp
        have c1 := cell_of_row _ _ 2 _ _ _ sd.x3
        clear sd
        have MA : Hid (Mk x4 (q1.alloc (.cells #[.string (⟨#[50]⟩ : ByteArray), .string ⟨#[]⟩, .string ⟨#[]⟩] 43)) B (.slice ga3 ng gc3) v1 (.slice ra3 nr rc3) (.slice ra3 nr rc3) (.slice none 0 0) ea c5 ng nr c5 1 0 0 (⟨#[49]⟩ : ByteArray) (⟨#[50]⟩ : ByteArray) (⟨#[51]⟩ : ByteArray)) := M1.out.alloc _
        go_upto_region 25 with (at_builtin; refine Go.Proofs.YthdkbjbhjfiaiaaGreatDoor.vs.wpList_appS rfl (.tmp 146) (.tmp 148) 23 rfl B 3 43 i0 (.agg #[.string ⟨#[]⟩, .string ⟨#[]⟩, .string ⟨#[]⟩]) 48 Tryz.underlying23 HI.out.1 HI.out.2.1 HI.out.2.2.1 HI.out.2.2.2 rfl (by decide) (.slice ra3 nr rc3) (nr + 0) _ rfl MA.out.ownR ⟨q1.heap.size, 0, none⟩ 1 1 [.string (⟨#[50]⟩ : ByteArray), .string ⟨#[]⟩, .string ⟨#[]⟩] rfl rfl (new_three _ _ _ _ _) (one_three _ _ _) (by unfold maxLen; omega) (by omega) MA.out.big ?_; intro v2 q2 ho hg hb hp; have M2 : Hid (Mk x4 q2 B (.slice ga3 ng gc3) v1 (.slice ra3 nr rc3) v2 (.slice none 0 0) ea c5 ng nr c5 1 1 0 (⟨#[49]⟩ : ByteArray) (⟨#[50]⟩ : ByteArray) (⟨#[51]⟩ : ByteArray)) := MA.out.stepR HLT.out ho hg hb hp; clear ho hg hb hp)
        clear c1 MA M1
        have sd := HSD.out q2 M2.out.kp
        have c1 := cell_of_row _ _ 3 _ _ _ sd.x5
        clear sd
        have MA : Hid (Mk x4 (q2.alloc (.cells #[.string (⟨#[51]⟩ : ByteArray)] 9)) B (.slice ga3 ng gc3) v1 (.slice ra3 nr rc3) v2 (.slice none 0 0) ea c5 ng nr c5 1 1 0 (⟨#[49]⟩ : ByteArray) (⟨#[50]⟩ : ByteArray) (⟨#[51]⟩ : ByteArray)) := M2.out.alloc _
        have HN1 : Hid (∀ u ∈ [Value.string (⟨#[51]⟩ : ByteArray)], u.oneCell' = true) := fun u hu => by simp at hu; subst hu; rfl
        have HOL : Hid (((List.replicate c5 (⟨#[51]⟩ : ByteArray)).map Value.string).length = c5 * 1) := by show _ = _; simp
        go_upto_region 27 with (at_builtin; refine wpList_append_grows _ rfl (.tmp 151) (.tmp 152) 28 rfl 9 i9 (.string ⟨#[]⟩) 1 16 Tryz.underlying28 HJ.out.1 HJ.out.2.1 HJ.out.2.2.1 HJ.out.2.2.2 rfl (by decide) a5 c5 c5 ((List.replicate c5 (⟨#[51]⟩ : ByteArray)).map Value.string) rfl HNO.out HOL.out (ext_holds MA.out.x0 HEX.out) ⟨q2.heap.size, 0, none⟩ 1 1 [.string (⟨#[51]⟩ : ByteArray)] rfl rfl (Go.Proofs.YthdkbjbhjfiaiaaGreatDoor.ytf.new_one _ _ _) HN1.out (by omega) (by unfold maxLen; omega) (by omega) ?_; intro v3 q3 ho hg; have M3 : Hid (Mk x4 q3 B (.slice ga3 ng gc3) v1 (.slice ra3 nr rc3) v2 v3 ea c5 ng nr c5 1 1 1 (⟨#[49]⟩ : ByteArray) (⟨#[50]⟩ : ByteArray) (⟨#[51]⟩ : ByteArray)) := MA.out.firstX HLT.out ho hg; clear ho hg)
        clear c1 MA M2 HOL
        go_loopw [22, 23, 24, 25] (fun gl rl xl i wr => ∃ k : Nat, k ≤ 64 ∧ i = .int .i64 k ∧ Hid (Mk x4 wr B (.slice ga3 ng gc3) gl (.slice ra3 nr rc3) rl xl ea c5 ng nr c5 (k + 1) (k + 1) (k + 1) (⟨#[49]⟩ : ByteArray) (⟨#[50]⟩ : ByteArray) (⟨#[51]⟩ : ByteArray))) (fun _ _ _ i _ => (64 - intOf i).toNat)
        case atStart => exact ⟨0, by omega, rfl, M3.out⟩
        case round =>
          obtain ⟨k, hk, rfl, HM⟩ := hrel
          by_cases hlt : k < 64
          · have hlt' : (k : Int) < 64 := by omega
            have MA : Hid (Mk x4 (wr.alloc (.cells #[.string (⟨#[49]⟩ : ByteArray), .string ⟨#[]⟩, .string ⟨#[]⟩] 43)) B (.slice ga3 ng gc3) u22 (.slice ra3 nr rc3) u23 u24 ea c5 ng nr c5 (k + 1) (k + 1) (k + 1) (⟨#[49]⟩ : ByteArray) (⟨#[50]⟩ : ByteArray) (⟨#[51]⟩ : ByteArray)) := HM.out.alloc _
            go_upto_region 30 with (at_builtin; refine Go.Proofs.YthdkbjbhjfiaiaaGreatDoor.vs.wpList_appS rfl (.tmp 158) (.tmp 160) 23 rfl B 3 43 i0 (.agg #[.string ⟨#[]⟩, .string ⟨#[]⟩, .string ⟨#[]⟩]) 48 Tryz.underlying23 HI.out.1 HI.out.2.1 HI.out.2.2.1 HI.out.2.2.2 rfl (by decide) u22 (ng + (k + 1)) _ rfl MA.out.ownG ⟨wr.heap.size, 0, none⟩ 1 1 [.string (⟨#[49]⟩ : ByteArray), .string ⟨#[]⟩, .string ⟨#[]⟩] rfl rfl (new_three _ _ _ _ _) (one_three _ _ _) (by unfold maxLen; omega) (by omega) MA.out.big ?_; intro v4 q4 ho hg hb hp; have M4 : Hid (Mk x4 q4 B (.slice ga3 ng gc3) v4 (.slice ra3 nr rc3) u23 u24 ea c5 ng nr c5 (k + 1 + 1) (k + 1) (k + 1) (⟨#[49]⟩ : ByteArray) (⟨#[50]⟩ : ByteArray) (⟨#[51]⟩ : ByteArray)) := MA.out.stepG HLT.out ho hg hb hp; clear ho hg hb hp)
            clear MA
            have MA : Hid (Mk x4 (q4.alloc (.cells #[.string (⟨#[50]⟩ : ByteArray), .string ⟨#[]⟩, .string ⟨#[]⟩] 43)) B (.slice ga3 ng gc3) v4 (.slice ra3 nr rc3) u23 u24 ea c5 ng nr c5 (k + 1 + 1) (k + 1) (k + 1) (⟨#[49]⟩ : ByteArray) (⟨#[50]⟩ : ByteArray) (⟨#[51]⟩ : ByteArray)) := M4.out.alloc _
            go_upto_region 31 with (at_builtin; refine Go.Proofs.YthdkbjbhjfiaiaaGreatDoor.vs.wpList_appS rfl (.tmp 162) (.tmp 164) 23 rfl B 3 43 i0 (.agg #[.string ⟨#[]⟩, .string ⟨#[]⟩, .string ⟨#[]⟩]) 48 Tryz.underlying23 HI.out.1 HI.out.2.1 HI.out.2.2.1 HI.out.2.2.2 rfl (by decide) u23 (nr + (k + 1)) _ rfl MA.out.ownR ⟨q4.heap.size, 0, none⟩ 1 1 [.string (⟨#[50]⟩ : ByteArray), .string ⟨#[]⟩, .string ⟨#[]⟩] rfl rfl (new_three _ _ _ _ _) (one_three _ _ _) (by unfold maxLen; omega) (by omega) MA.out.big ?_; intro v5 q5 ho hg hb hp; have M5 : Hid (Mk x4 q5 B (.slice ga3 ng gc3) v4 (.slice ra3 nr rc3) v5 u24 ea c5 ng nr c5 (k + 1 + 1) (k + 1 + 1) (k + 1) (⟨#[49]⟩ : ByteArray) (⟨#[50]⟩ : ByteArray) (⟨#[51]⟩ : ByteArray)) := MA.out.stepR HLT.out ho hg hb hp; clear ho hg hb hp)
            clear MA
            have MA : Hid (Mk x4 (q5.alloc (.cells #[.string (⟨#[51]⟩ : ByteArray)] 9)) B (.slice ga3 ng gc3) v4 (.slice ra3 nr rc3) v5 u24 ea c5 ng nr c5 (k + 1 + 1) (k + 1 + 1) (k + 1) (⟨#[49]⟩ : ByteArray) (⟨#[50]⟩ : ByteArray) (⟨#[51]⟩ : ByteArray)) := M5.out.alloc _
            go_wp2_with (at_builtin; refine Go.Proofs.YthdkbjbhjfiaiaaGreatDoor.vs.wpList_appS rfl (.tmp 166) (.tmp 167) 28 rfl x4.heap.size 1 9 i9 (.string ⟨#[]⟩) 16 Tryz.underlying28 HJ.out.1 HJ.out.2.1 HJ.out.2.2.1 HJ.out.2.2.2 rfl (by decide) u24 (c5 + (k + 1)) _ rfl (MA.out.ownX (by omega)) ⟨q5.heap.size, 0, none⟩ 1 1 [.string (⟨#[51]⟩ : ByteArray)] rfl rfl (Go.Proofs.YthdkbjbhjfiaiaaGreatDoor.ytf.new_one _ _ _) HN1.out (by unfold maxLen; omega) (by omega) MA.out.kp.size ?_; intro v6 q6 ho hg hb hp; have M6 : Hid (Mk x4 q6 B (.slice ga3 ng gc3) v4 (.slice ra3 nr rc3) v5 v6 ea c5 ng nr c5 (k + 1 + 1) (k + 1 + 1) (k + 1 + 1) (⟨#[49]⟩ : ByteArray) (⟨#[50]⟩ : ByteArray) (⟨#[51]⟩ : ByteArray)) := MA.out.stepX HLT.out ho hg hb; clear ho hg hb hp)
            go_roundw
            case rel => exact ⟨k + 1, by omega, by go_num, M6.out⟩
            case measure => simp [intOf]; omega
          have hlt' : ¬ (k : Int) < 64 := by omega
          obtain rfl : 64 = k := by omega
          obtain ⟨u9, rfl⟩ : ∃ u, u = wr := ⟨_, rfl⟩
          obtain ⟨la, lc, hgl⟩ := HM.out.g1.form
          obtain ⟨ma, mc, hrl⟩ := HM.out.r1.form
          obtain ⟨xa, xc, hxl, hxr⟩ := row_reads (HM.out.ownX (by omega))
          rw [sgs_len] at hgl hrl
          subst hgl
          subst hrl
          subst hxl
          have G0 : Hid (ReadsG u9 (.slice ga3 ng gc3) (sgs ng (⟨#[49]⟩ : ByteArray))) := HM.out.g0.reads
          have G1 : Hid (ReadsG u9 (.slice la (ng + 65) lc) (sgs (ng + 65) (⟨#[49]⟩ : ByteArray))) := HM.out.g1.reads
          have R0 : Hid (ReadsG u9 (.slice ra3 nr rc3) (sgs nr (⟨#[50]⟩ : ByteArray))) := HM.out.r0.reads
          have R1 : Hid (ReadsG u9 (.slice ma (nr + 65) mc) (sgs (nr + 65) (⟨#[50]⟩ : ByteArray))) := HM.out.r1.reads
          have X0 : Hid (Reads u9 (.slice a5 c5 c5) (List.replicate c5 (⟨#[51]⟩ : ByteArray))) := ext_reads HM.out.x0 HEX.out (by rw [List.length_replicate])
          have X1 : Hid (Reads u9 (.slice xa (c5 + 65) xc) (List.replicate (c5 + 65) (⟨#[51]⟩ : ByteArray))) := hxr
          have KU : Hid (Kp (AK (.slice ga3 ng gc3) (.slice ra3 nr rc3) ea) x4 u9) := HM.out.kp
          have HB0 : Hid (Below u9.heap.size u9 u9) := Below.refl _ _
          clear hxr HM hk hlt HP1 HP2 HP3
          have t1 : ((⟨#[49]⟩ : ByteArray).toList == (⟨#[49]⟩ : ByteArray).toList) = true := beq_self_eq_true _
          have t2 : ((⟨#[50]⟩ : ByteArray).toList == (⟨#[50]⟩ : ByteArray).toList) = true := beq_self_eq_true _
          have t3 : ((⟨#[51]⟩ : ByteArray).toList == (⟨#[51]⟩ : ByteArray).toList) = true := beq_self_eq_true _
          go_upto_region 33 with fail
          clear hlt'
          go_loopw [26] (fun i wr => ∃ k : Nat, k ≤ ng ∧ i = .int .i64 k ∧ Hid (Below u9.heap.size u9 wr)) (fun i _ => (ng - intOf i).toNat)
          case atStart => exact ⟨0, by omega, rfl, HB0.out⟩
          case round =>
            obtain ⟨k, hk, rfl, HR⟩ := hrel
            have sd := HSD.out wr (KU.out.trans (Kp.of_below HR.out))
            have c1 := cell_of_row _ _ 1 _ _ _ sd.x3
            clear sd
            by_cases hlt : k < ng
            · have hlt' : (k : Int) < ng := by omega
              have hlt2 : (k : Int) < (ng : Int) + 65 := by omega
              obtain ⟨g, off, rfl, hc⟩ := rd_marks G0.out rfl HR.out (by omega)
              obtain ⟨g', off', rfl, hc'⟩ := rd_marks G1.out rfl HR.out (by omega)
              have p1 := hc k hlt
              have p2 := hc' k (by omega)
              have KN : Hid (∀ n, Below u9.heap.size u9 (wr.drewN n)) := fun n => Go.Proofs.YthdkbjbhjfiaiaaGreatDoor.cp.below_dN HR.out n
              clear hc hc'
              go_wp2
              go_roundw
              case rel => exact ⟨k + 1, by omega, by go_num, by first | exact HR.out | exact KN.out _⟩
              case measure => simp [intOf]; omega
            have hlt' : ¬ (k : Int) < ng := by omega
            clear hlt hk
            obtain ⟨y0, rfl⟩ : ∃ u, u = wr := ⟨_, rfl⟩
            have HB1 : Hid (Below u9.heap.size u9 y0) := HR.out
            clear HR
            go_upto_region 38 with fail
            clear c1 hlt'
            go_loopw [27] (fun i wr => ∃ k : Nat, k ≤ nr ∧ i = .int .i64 k ∧ Hid (Below u9.heap.size u9 wr)) (fun i _ => (nr - intOf i).toNat)
            case atStart => exact ⟨0, by omega, rfl, HB1.out⟩
            case round =>
              obtain ⟨k, hk, rfl, HR⟩ := hrel
              have sd := HSD.out wr (KU.out.trans (Kp.of_below HR.out))
              have c1 := cell_of_row _ _ 2 _ _ _ sd.x3
              clear sd
              by_cases hlt : k < nr
              · have hlt' : (k : Int) < nr := by omega
                have hlt2 : (k : Int) < (nr : Int) + 65 := by omega
                obtain ⟨g, off, rfl, hc⟩ := rd_marks R0.out rfl HR.out (by omega)
                obtain ⟨g', off', rfl, hc'⟩ := rd_marks R1.out rfl HR.out (by omega)
                have p1 := hc k hlt
                have p2 := hc' k (by omega)
                have KN : Hid (∀ n, Below u9.heap.size u9 (wr.drewN n)) := fun n => Go.Proofs.YthdkbjbhjfiaiaaGreatDoor.cp.below_dN HR.out n
                clear hc hc'
                go_wp2
                go_roundw
                case rel => exact ⟨k + 1, by omega, by go_num, by first | exact HR.out | exact KN.out _⟩
                case measure => simp [intOf]; omega
              have hlt' : ¬ (k : Int) < nr := by omega
              clear hlt hk
              obtain ⟨y1, rfl⟩ : ∃ u, u = wr := ⟨_, rfl⟩
              have HB2 : Hid (Below u9.heap.size u9 y1) := HR.out
              clear HR
              go_upto_region 43 with fail
              clear c1 hlt'
              go_loopw [28] (fun i wr => ∃ k : Nat, k ≤ c5 ∧ i = .int .i64 k ∧ Hid (Below u9.heap.size u9 wr)) (fun i _ => (c5 - intOf i).toNat)
              case atStart => exact ⟨0, by omega, rfl, HB2.out⟩
              case round =>
                obtain ⟨k, hk, rfl, HR⟩ := hrel
                have sd := HSD.out wr (KU.out.trans (Kp.of_below HR.out))
                have c1 := cell_of_row _ _ 3 _ _ _ sd.x5
                clear sd
                by_cases hlt : k < c5
                · have hlt' : (k : Int) < c5 := by omega
                  have hlt2 : (k : Int) < (c5 : Int) + 65 := by omega
                  obtain ⟨g, off, rfl, hc⟩ := rd_marksX X0.out HR.out (by omega)
                  obtain ⟨g', off', rfl, hc'⟩ := rd_marksX X1.out HR.out (by omega)
                  have p1 := hc k hlt
                  have p2 := hc' k (by omega)
                  have KN : Hid (∀ n, Below u9.heap.size u9 (wr.drewN n)) := fun n => Go.Proofs.YthdkbjbhjfiaiaaGreatDoor.cp.below_dN HR.out n
                  clear hc hc'
                  go_wp2
                  go_roundw
                  case rel => exact ⟨k + 1, by omega, by go_num, by first | exact HR.out | exact KN.out _⟩
                  case measure => simp [intOf]; omega
                have hlt' : ¬ (k : Int) < c5 := by omega
                clear hlt hk
                obtain ⟨y2, rfl⟩ : ∃ u, u = wr := ⟨_, rfl⟩
                have HB3 : Hid (Below u9.heap.size u9 y2) := HR.out
                clear HR
                go_upto_region 47 with fail
                clear c1 hlt'
                have KY : Hid (Kp (AK (.slice ga3 ng gc3) (.slice ra3 nr rc3) ea) x4 y2) := KU.out.trans (Kp.of_below HB3.out)
                have LY : Hid (Below w.heap.size w y2) := (HSD.out y2 KY.out).lo
                go_wp2_with fail
                refine (A.out y2 LY.out).mono ?_
                rintro e w7 ⟨⟨ga7, gc7, ra7, rc7, rfl, h1, h2, h3⟩, hb⟩
                obtain ⟨V7, HV7⟩ : ∃ V, Hid (w7.alloc (.cells #[.string t, .slice ga7 ng gc7, .slice ra7 nr rc7] 25) = V) := ⟨_, rfl⟩
                obtain ⟨b7, HB7⟩ : ∃ b, Hid (w7.heap.size = b) := ⟨_, rfl⟩
                have S7 : Hid (∀ X, Below V7.heap.size V7 X → (Below y2.heap.size y2 X) ∧ BO b7 t go re ng nr ga7 gc7 ra7 rc7 X) := by
                  rw [← HV7.out, ← HB7.out]
                  exact steps (fun X h => h) hb ((Below.refl _ _).alloc (Nat.le_refl _) _) (fun X h => bo_new h1.reads h2.reads h)
                clear h1 h2 h3 hb
                go_upto_region 48 with fail
                rw [HV7.out, HB7.out]
                have LV : Hid (Below w.heap.size w V7) := Go.Proofs.YthdkbjbhjfiaiaaGreatDoor.nd.over LY.out (S7.out V7 (Below.refl _ _)).1
                go_wp2_with fail
                refine (Q.out V7 LV.out).mono ?_
                rintro e w8 ⟨⟨a8, c8, rfl, h1, h2⟩, hb⟩
                obtain ⟨V8, HV8⟩ : ∃ V, Hid (w8.alloc (.cells #[.string o, .int .i64 m, .string r, .slice a8 c5 c8] 30) = V) := ⟨_, rfl⟩
                obtain ⟨b8, HB8⟩ : ∃ b, Hid (w8.heap.size = b) := ⟨_, rfl⟩
                have S8 : Hid (∀ X, Below V8.heap.size V8 X → ((Below y2.heap.size y2 X) ∧ BO b7 t go re ng nr ga7 gc7 ra7 rc7 X) ∧ BP b8 o m r l c5 a8 c8 X) := by
                  rw [← HV8.out, ← HB8.out]
                  exact steps S7.out hb ((Below.refl _ _).alloc (Nat.le_refl _) _) (fun X h => bp_new h2 h)
                clear h1 h2 hb S7
                go_upto_region 49 with fail
                rw [HV8.out, HB8.out]
                have SF := fun X h => (⟨HSD.out X (KY.out.trans (Kp.of_below (S8.out X h).1.1)), (S8.out X h).1.2, (S8.out X h).2⟩ : _ ∧ _ ∧ _)
                have SG : Hid (∀ X, Below V8.heap.size V8 X → _) := SF
                have Z0 : Hid (Below V8.heap.size V8 V8) := Below.refl _ _
                clear SF
                obtain ⟨sd, bo, bp⟩ := SG.out V8 Z0.out
                have a0 := cell_of_row _ _ 0 _ _ _ sd.x4.1
                have a1 := cell_of_row _ _ 1 _ _ _ sd.x4.1
                have a2 := cell_of_row _ _ 2 _ _ _ sd.x4.1
                have d0 := cell_of_row _ _ 0 _ _ _ sd.x1.1
                have d1 := cell_of_row _ _ 1 _ _ _ sd.x1.1
                have d2 := cell_of_row _ _ 2 _ _ _ sd.x1.1
                have CC : Hid (Calls _ _ _ _ _) := openedN t go re ng nr HNG.out HNR.out zg zr _ _ _ _ _ _ _ _ V8 sd.x4.2.1 sd.x4.2.2 sd.x1.2.1 sd.x1.2.2
                clear sd bo bp
                go_wp2_with fail
                refine CC.out.mono ?_
                rintro e z1 ⟨rfl, hb⟩
                have Z1 : Hid (Below V8.heap.size V8 z1) := Go.Proofs.YthdkbjbhjfiaiaaGreatDoor.nd.over Z0.out hb
                clear hb CC a0 d0 a1 d1 a2 d2
                obtain ⟨sd, bo, bp⟩ := SG.out z1 Z1.out
                have a0 := cell_of_row _ _ 0 _ _ _ sd.x6.1
                have a1 := cell_of_row _ _ 1 _ _ _ sd.x6.1
                have a2 := cell_of_row _ _ 2 _ _ _ sd.x6.1
                have a3 := cell_of_row _ _ 3 _ _ _ sd.x6.1
                have d0 := cell_of_row _ _ 0 _ _ _ sd.x2.1
                have d1 := cell_of_row _ _ 1 _ _ _ sd.x2.1
                have d2 := cell_of_row _ _ 2 _ _ _ sd.x2.1
                have d3 := cell_of_row _ _ 3 _ _ _ sd.x2.1
                have CC : Hid (Calls _ _ _ _ _) := alikeN o m r l c5 HN.out (by omega) _ _ _ _ z1 sd.x6.2 sd.x2.2
                clear sd bo bp
                go_wp2_with fail
                refine CC.out.mono ?_
                rintro e z2 ⟨rfl, hb⟩
                have Z2 : Hid (Below V8.heap.size V8 z2) := Go.Proofs.YthdkbjbhjfiaiaaGreatDoor.nd.over Z1.out hb
                clear hb CC a0 d0 a1 d1 a2 d2 a3 d3
                obtain ⟨sd, bo, bp⟩ := SG.out z2 Z2.out
                have a0 := cell_of_row _ _ 0 _ _ _ bo.1
                have a1 := cell_of_row _ _ 1 _ _ _ bo.1
                have a2 := cell_of_row _ _ 2 _ _ _ bo.1
                have d0 := cell_of_row _ _ 0 _ _ _ sd.x1.1
                have d1 := cell_of_row _ _ 1 _ _ _ sd.x1.1
                have d2 := cell_of_row _ _ 2 _ _ _ sd.x1.1
                have CC : Hid (Calls _ _ _ _ _) := openedN t go re ng nr HNG.out HNR.out zg zr _ _ _ _ _ _ _ _ z2 bo.2.1 bo.2.2 sd.x1.2.1 sd.x1.2.2
                clear sd bo bp
                go_wp2_with fail
                refine CC.out.mono ?_
                rintro e z3 ⟨rfl, hb⟩
                have Z3 : Hid (Below V8.heap.size V8 z3) := Go.Proofs.YthdkbjbhjfiaiaaGreatDoor.nd.over Z2.out hb
                clear hb CC a0 d0 a1 d1 a2 d2
                obtain ⟨sd, bo, bp⟩ := SG.out z3 Z3.out
                have a0 := cell_of_row _ _ 0 _ _ _ bp.1
                have a1 := cell_of_row _ _ 1 _ _ _ bp.1
                have a2 := cell_of_row _ _ 2 _ _ _ bp.1
                have a3 := cell_of_row _ _ 3 _ _ _ bp.1
                have d0 := cell_of_row _ _ 0 _ _ _ sd.x2.1
                have d1 := cell_of_row _ _ 1 _ _ _ sd.x2.1
                have d2 := cell_of_row _ _ 2 _ _ _ sd.x2.1
                have d3 := cell_of_row _ _ 3 _ _ _ sd.x2.1
                have CC : Hid (Calls _ _ _ _ _) := alikeN o m r l c5 HN.out (by omega) _ _ _ _ z3 bp.2 sd.x2.2
                clear sd bo bp
                go_wp2_with fail
                refine CC.out.mono ?_
                rintro e z4 ⟨rfl, hb⟩
                have Z4 : Hid (Below V8.heap.size V8 z4) := Go.Proofs.YthdkbjbhjfiaiaaGreatDoor.nd.over Z3.out hb
                clear hb CC a0 d0 a1 d1 a2 d2 a3 d3
                go_wp2
                go_ret
                exact ⟨rfl, (SG.out _ Z4.out).1.lo⟩
end Go.Proofs.YthdkbjbhjfiaiaaGreatDoor.vm
