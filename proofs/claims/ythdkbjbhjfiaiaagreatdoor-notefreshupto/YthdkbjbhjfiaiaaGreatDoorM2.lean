import Derived.Test.YthdkbjbhjfiaiaaGreatDoorH1
import Derived.Deep.MidRow
import Derived.Test.YthdkbjbhjfiaiaaGreatDoorJ2
import Derived.Test.YthdkbjbhjfiaiaaGreatDoorH2
import Derived.Test.YthdkbjbhjfiaiaaGreatDoorM1
import Derived.Lib.AppendZeros
import Derived.Laws.AppendOwnNone
import Derived.Deep.RegionHeld3
import Derived.Test.YthdkbjbhjfiaiaaGreatDoorXA
import Derived.Test.YthdkbjbhjfiaiaaGreatDoorK3
import Derived.Deep.RegionHeldLaw
namespace Go.Proofs.YthdkbjbhjfiaiaaGreatDoor.ka
open Go.RowKit Go.PlainAid
open Go.Proofs.YthdkbjbhjfiaiaaGreatDoor.ca Go.Proofs.YthdkbjbhjfiaiaaGreatDoor.cp
set_option linter.unusedVariables false
set_option maxRecDepth 4000

-- a list of texts, wherever it lies
def ReadsT (w : World) (v : Value) (xs : List ByteArray) : Prop :=
  ∃ a cap, v = .slice a xs.length cap ∧ xs.length ≤ cap ∧ (xs.length = 0 ∨ ∃ b off, a = some ⟨b, off, none⟩ ∧ ∀ i, i < xs.length → w.cell? ⟨b, off + i, none⟩ = some (.string (xs.getD i ByteArray.empty)))
theorem ReadsT.later {w w' : World} {v : Value} {xs : List ByteArray} (h : ReadsT w v xs) (hb : Below w.heap.size w w') : ReadsT w' v xs := by
  obtain ⟨a, cap, rfl, hc, h0 | ⟨b, off, rfl, hh⟩⟩ := h
  · exact ⟨a, cap, rfl, hc, .inl h0⟩
  · refine ⟨_, cap, rfl, hc, .inr ⟨b, off, rfl, fun i hi => ?_⟩⟩
    have := hh i hi
    exact (hb.cell (p := ⟨b, off + i, none⟩) (World.block_lt_of_cell? _ _ this)).trans this
theorem ReadsT.front {w : World} {b off n cap k : Nat} {xs : List ByteArray} (h : ReadsT w (.slice (some ⟨b, off, none⟩) n cap) xs) (hk : k ≤ xs.length) : ReadsT w (.slice (some ⟨b, off, none⟩) k cap) (xs.take k) := by
  obtain ⟨a, cap', e, hc, hh⟩ := h
  injection e with e1 e2 e3
  subst e1 e3
  have hl : (xs.take k).length = k := by rw [List.length_take]; omega
  refine ⟨_, cap, by rw [hl], by omega, ?_⟩
  rcases hh with h0 | ⟨b', off', e4, hh⟩
  · left; omega
  · injection e4 with e4
    injection e4 with e5 e6
    subst e5 e6
    refine .inr ⟨b, off, rfl, fun i hi => ?_⟩
    rw [hl] at hi
    rw [hh i (by omega), List.getD_eq_getElem?_getD, List.getD_eq_getElem?_getD, List.getElem?_take, if_pos hi]
theorem ReadsT.back {w : World} {b off n cap k : Nat} {xs : List ByteArray} (h : ReadsT w (.slice (some ⟨b, off, none⟩) n cap) xs) (hk : k ≤ xs.length) : ReadsT w (.slice (some ⟨b, off + k, none⟩) (n - k) (cap - k)) (xs.drop k) := by
  obtain ⟨a, cap', e, hc, hh⟩ := h
  injection e with e1 e2 e3
  subst e1 e2 e3
  have hl : (xs.drop k).length = xs.length - k := List.length_drop
  refine ⟨_, cap - k, by rw [hl], by omega, ?_⟩
  rcases hh with h0 | ⟨b', off', e4, hh⟩
  · left; omega
  · injection e4 with e4
    injection e4 with e5 e6
    subst e5 e6
    refine .inr ⟨b, off + k, rfl, fun i hi => ?_⟩
    rw [hl] at hi
    rw [Nat.add_assoc, hh (k + i) (by omega), List.getD_eq_getElem?_getD, List.getD_eq_getElem?_getD, List.getElem?_drop]
theorem ReadsT.mid {w : World} {b off n cap f k : Nat} {xs : List ByteArray} (h : ReadsT w (.slice (some ⟨b, off, none⟩) n cap) xs) (hk : f + k ≤ xs.length) : ReadsT w (.slice (some ⟨b, off + f, none⟩) k (cap - f)) ((xs.drop f).take k) := by
  have h1 := h.back (k := f) (by omega)
  exact ReadsT.front (n := n - f) h1 (by rw [List.length_drop]; omega)
theorem own_readsT {w : World} {B n : Nat} {v : Value} {xs : List ByteArray} (h : w.ownsRow B 9 1 v n (xs.map Value.string)) : ReadsT w v xs := by
  have hn : xs.length = n := by have := h.1; simpa using this
  subst hn
  rcases h.2 with ⟨rfl, h0⟩ | ⟨g, cap, cur, rfl, _, hg, hc, _⟩
  · exact ⟨none, 0, by rw [h0], by omega, .inl h0⟩
  · refine ⟨_, cap, rfl, hc, .inr ⟨g, 0, rfl, fun i hi => ?_⟩⟩
    rw [Nat.zero_add, h.cellAt i (by omega), List.getElem?_map, List.getElem?_eq_getElem hi, List.getD_eq_getElem?_getD, List.getElem?_eq_getElem hi]
    rfl
theorem hi9 : (Tryz.prog.info? 9).map (fun i => (i.zero, i.size, i.bytes)) = some (some (.string ByteArray.empty), 1, 16) := by kernel_rfl
theorem info_parts {t : TypeId} {z : Value} {n b : Nat} (h : (Tryz.prog.info? t).map (fun i => (i.zero, i.size, i.bytes)) = some (some z, n, b)) : ∃ i, Tryz.prog.info? t = some i ∧ i.zero = some z ∧ i.size = n ∧ i.bytes = b := by
  obtain ⟨i, hi, he⟩ := Option.map_eq_some_iff.1 h
  injection he with e1 e2
  injection e2 with e2 e3
  exact ⟨i, hi, e1, e2, e3⟩
theorem own_formS {w : World} {B e size n : Nat} {v : Value} {xs : List Value} (h : w.ownsRow B e size v n xs) : ∃ a c, v = .slice a n c := by
  rcases h.2 with ⟨rfl, rfl⟩ | ⟨g, cap, cur, rfl, _⟩
  · exact ⟨_, _, rfl⟩
  · exact ⟨_, _, rfl⟩
theorem new_text (W : World) (u : Value) (t : TypeId) : ∀ (j : Nat) (x : Value), [u][j]? = some x → (W.alloc (.cells #[u] t)).cell? (Addr.add ⟨W.heap.size, 0, none⟩ j) = some x := by
  intro j x hx
  rw [show (Addr.add ⟨W.heap.size, 0, none⟩ j) = ⟨W.heap.size, j, none⟩ by cases j <;> simp [Addr.add], World.cell?_alloc_at _ _ _ _ rfl]
  simpa using hx
theorem one_text (x : ByteArray) : ∀ u ∈ [Value.string x], u.oneCell' = true := by
  intro u hu
  simp only [List.mem_cons, List.not_mem_nil, or_false] at hu
  subst hu
  rfl
theorem own_first {w : World} {B g n cap : Nat} {ys : List ByteArray} {z : Value} (h : w.ownsRow B 9 1 (.slice (some ⟨g, 0, none⟩) (n + 1) cap) (n + 1) (ys.map Value.string ++ [z])) (hn : ys.length = n) : ReadsT w (.slice (some ⟨g, 0, none⟩) n cap) ys := by
  have hc : n + 1 ≤ cap := by
    rcases h.2 with ⟨e, _⟩ | ⟨g', cap', cur, e, _, _, hc, _⟩
    · cases e
    · injection e with _ _ e3; omega
  refine ⟨_, cap, by rw [hn], by omega, .inr ⟨g, 0, rfl, fun i hi => ?_⟩⟩
  rw [Nat.zero_add, h.cellAt i (by omega), List.getElem?_append_left (by rw [List.length_map]; exact hi), List.getElem?_map, List.getElem?_eq_getElem hi, List.getD_eq_getElem?_getD, List.getElem?_eq_getElem hi]
  rfl
theorem own_behind {w : World} {B g n cap : Nat} {ys : List ByteArray} {z : Value} (h : w.ownsRow B 9 1 (.slice (some ⟨g, 0, none⟩) (n + 1) cap) (n + 1) (ys.map Value.string ++ [z])) (hn : ys.length = n) : w.cell? ⟨g, n, none⟩ = some z := by
  rw [h.cellAt n (by omega), List.getElem?_append_right (by rw [List.length_map]; omega), List.length_map, hn, Nat.sub_self]
  rfl
theorem reads_news {w : World} {ad : Addr} {n cap : Nat} {xs : List ByteArray} (h : ReadsT w (.slice (some ad) n cap) xs) : ∀ (j : Nat) (u : Value), (xs.map Value.string)[j]? = some u → w.cell? (ad.add j) = some u := by
  intro j u hu
  have hj : j < xs.length := by have := (List.getElem?_eq_some_iff.1 hu).1; simpa using this
  obtain ⟨a', cap', e, _, h0 | ⟨b, off, e4, hc⟩⟩ := h
  · omega
  · injection e with e1 e2 e3
    rw [← e1] at e4
    obtain rfl := Option.some.inj e4
    rw [Addr.add_mid, hc j hj, ← hu, List.getElem?_map, List.getElem?_eq_getElem hj, List.getD_eq_getElem?_getD, List.getElem?_eq_getElem hj]
    rfl
end Go.Proofs.YthdkbjbhjfiaiaaGreatDoor.ka

namespace Go.Proofs.YthdkbjbhjfiaiaaGreatDoor.w1
open Go.RowKit Go.PlainAid
open Go.Proofs.YthdkbjbhjfiaiaaGreatDoor.mo Go.Proofs.YthdkbjbhjfiaiaaGreatDoor.nh Go.Proofs.YthdkbjbhjfiaiaaGreatDoor.ta Go.Proofs.YthdkbjbhjfiaiaaGreatDoor.tb Go.Proofs.YthdkbjbhjfiaiaaGreatDoor.tc Go.Proofs.YthdkbjbhjfiaiaaGreatDoor.tj Go.Proofs.YthdkbjbhjfiaiaaGreatDoor.n1 Go.Proofs.YthdkbjbhjfiaiaaGreatDoor.n3 Go.Proofs.YthdkbjbhjfiaiaaGreatDoor.n4 Go.Proofs.YthdkbjbhjfiaiaaGreatDoor.o1 Go.Proofs.YthdkbjbhjfiaiaaGreatDoor.o3 Go.Proofs.YthdkbjbhjfiaiaaGreatDoor.q1 Go.Proofs.YthdkbjbhjfiaiaaGreatDoor.q2 Go.Proofs.YthdkbjbhjfiaiaaGreatDoor.q3 Go.Proofs.YthdkbjbhjfiaiaaGreatDoor.q5 Go.Proofs.YthdkbjbhjfiaiaaGreatDoor.s1 Go.Proofs.YthdkbjbhjfiaiaaGreatDoor.s2 Go.Proofs.YthdkbjbhjfiaiaaGreatDoor.s3 Go.Proofs.YthdkbjbhjfiaiaaGreatDoor.t3 Go.Proofs.YthdkbjbhjfiaiaaGreatDoor.t5 Go.Proofs.YthdkbjbhjfiaiaaGreatDoor.v2 Go.Proofs.YthdkbjbhjfiaiaaGreatDoor.v4
open Go.Proofs.YthdkbjbhjfiaiaaGreatDoor.uc (pr)
set_option linter.unusedVariables false
set_option maxRecDepth 4000

-- a signature that is written is read
theorem no10_of {s : ByteArray} (h : ∀ x ∈ bs s, x ≠ 10) : no10 s := fun j hj => by
  rw [← bs_get s j hj]; exact h _ (List.getElem_mem _)
theorem nm_all {s : ByteArray} (h : nm s = true) : s.size ≠ 0 ∧ ∀ x ∈ bs s, 33 ≤ x ∧ x ≤ 126 := by
  unfold nm at h
  simp only [Bool.and_eq_true, decide_eq_true_eq] at h
  refine ⟨h.1.1, fun x hx => ?_⟩
  have := List.all_eq_true.1 h.2 x hx
  unfold ok1 pr at this
  simp only [Bool.and_eq_true, decide_eq_true_eq] at this
  exact this.1
theorem sg_no10 : ∀ v : Nat, v < 64 → sg A64 v ≠ 10 := by decide +kernel
theorem b64_no10 (l : List Int) (h : In 256 l) : ∀ x ∈ b64L l, x ≠ 10 := by
  intro x hx
  unfold b64L at hx
  rcases List.mem_append.1 hx with hx | hx
  · obtain ⟨v, hv, rfl⟩ := List.mem_map.1 (List.mem_of_mem_take hx)
    obtain ⟨h0, h1⟩ := sixes_full l h v hv
    obtain ⟨k, rfl⟩ := Int.eq_ofNat_of_zero_le h0
    exact sg_no10 k (by omega)
  · rw [List.eq_of_mem_replicate hx]; decide
def lnB (g : Sg) : ByteArray := DS ++ (g.name ++ (⟨#[32]⟩ ++ str (b64L (bs (g.id ++ g.mac)))))
theorem line_nl (g : Sg) : lineOf g = lnB g ++ nlB := by
  unfold lineOf lnB dash DS nlB
  simp only [ByteArray.append_assoc]
theorem bs_ds : bs DS = [226, 128, 148, 32] := by decide +kernel
theorem bs_sp : bs (⟨#[32]⟩ : ByteArray) = [32] := by decide +kernel
theorem bt_sp : bt (⟨#[32]⟩ : ByteArray) 0 = 32 := by decide +kernel
theorem sig_there {g : Sg} (f : Fine g) : sigP (lnB g) = some g ∧ no10 (lnB g) ∧ lnB g ≠ ByteArray.empty := by
  obtain ⟨n0, nA⟩ := nm_all f.nm
  have hz : DS.size = 4 := rfl
  have hs : (⟨#[32]⟩ : ByteArray).size = 1 := rfl
  have hin := bs_in (g.id ++ g.mac)
  have hb := bs_str (b64L (bs (g.id ++ g.mac))) (b64L_in _ hin)
  obtain ⟨ha, hc⟩ := b64_there _ hin
  refine ⟨?_, no10_of ?_, ?_⟩
  · have hfm := f.nm
    have hfi := f.id
    have hfc := f.mac
    generalize hcc : str (b64L (bs (g.id ++ g.mac))) = cc at *
    have ho : opn (lnB g) = true := by
      unfold opn lnB
      rw [ByteArray.extract_append_eq_left hz.symm]
      exact decide_eq_true rfl
    have hr : rst (lnB g) = g.name ++ (⟨#[32]⟩ ++ cc) := by
      unfold rst
      rw [if_pos ho]
      unfold lnB
      rw [hcc]
      exact ByteArray.extract_append_eq_right hz.symm (by rw [ByteArray.size_append])
    have hix : ix32 (g.name ++ (⟨#[32]⟩ ++ cc)) = some g.name.size := by
      refine ix_at _ _ (by rw [ByteArray.size_append, ByteArray.size_append, hs]; omega) ?_ (fun j hj => ?_)
      · have := bt_right g.name (⟨#[32]⟩ ++ cc) 0 (by rw [ByteArray.size_append, hs]; omega)
        rw [Nat.add_zero] at this
        rw [this, bt_left _ _ _ (by rw [hs]; omega), bt_sp]
      · rw [bt_left _ _ _ hj, ← bs_get _ j hj]
        have := nA _ (List.getElem_mem (by rw [bs_length]; exact hj))
        omega
    have e1 : (g.name ++ (⟨#[32]⟩ ++ cc)).extract 0 g.name.size = g.name := ByteArray.extract_append_eq_left rfl
    have e2 : (g.name ++ (⟨#[32]⟩ ++ cc)).extract (g.name.size + 1) (g.name ++ (⟨#[32]⟩ ++ cc)).size = cc := by
      rw [← ByteArray.append_assoc]
      exact ByteArray.extract_append_eq_right (by rw [ByteArray.size_append, hs]) (by rw [ByteArray.size_append])
    unfold sigP
    rw [if_pos ho, hr, hix]
    simp only
    rw [e1, e2]
    unfold sgOf
    rw [if_pos ⟨hfm, by rw [hb]; exact ha, by rw [hb, hc, bs_length, ByteArray.size_append, hfi, hfc]⟩, hb, hc, str_bs]
    have e3 : (g.id ++ g.mac).extract 0 4 = g.id := ByteArray.extract_append_eq_left hfi.symm
    have e4 : (g.id ++ g.mac).extract 4 36 = g.mac := ByteArray.extract_append_eq_right hfi.symm (by rw [hfi, hfc])
    rw [e3, e4]
  · intro x hx
    unfold lnB at hx
    rw [bs_two, bs_two, bs_two, hb, bs_ds, bs_sp] at hx
    rcases List.mem_append.1 hx with hx | hx
    · simp at hx; omega
    · rcases List.mem_append.1 hx with hx | hx
      · have := nA x hx; omega
      · rcases List.mem_append.1 hx with hx | hx
        · simp at hx; omega
        · exact b64_no10 _ hin x hx
  · intro e
    have := congrArg ByteArray.size e
    unfold lnB at this
    rw [ByteArray.size_append, hz] at this
    have h0 : ByteArray.empty.size = 0 := rfl
    omega
theorem lines_there : ∀ gs : List Sg, (∀ g ∈ gs, Fine g) → (gs.map lnB).map sigP = gs.map some ∧ flN (gs.map lnB) = flatB (gs.map lineOf) ∧ ∀ l ∈ gs.map lnB, no10 l ∧ l ≠ ByteArray.empty
  | [], _ => ⟨rfl, rfl, fun l h => by cases h⟩
  | g :: gs, h => by
    obtain ⟨h1, h2, h3⟩ := sig_there (h g (by simp))
    obtain ⟨i1, i2, i3⟩ := lines_there gs (fun x hx => h x (by simp [hx]))
    refine ⟨by rw [List.map_cons, List.map_cons, h1, i1]; rfl, by rw [List.map_cons, flN, i2, List.map_cons, flatB, line_nl], fun l hl => ?_⟩
    rw [List.map_cons] at hl
    rcases List.mem_cons.1 hl with rfl | hl
    · exact ⟨h2, h3⟩
    · exact i3 l hl
theorem fl_inj {a b : List ByteArray} (ha : ∀ l ∈ a, no10 l) (hb : ∀ l ∈ b, no10 l) (h : flN a = flN b) : a = b := by
  have e := lines_flN a ha
  rw [h, lines_flN b hb] at e
  have e2 := Option.some.inj e
  rw [← map_str_bs a, ← map_str_bs b, e2]
-- a note that is written is read
theorem note_there (body : ByteArray) (gs : List Sg) (hg : goesB body = true) (hf : ∀ g ∈ gs, Fine g) (hp : Pw gs) (h0 : gs.length ≠ 0) (h16 : gs.length ≤ 16) (RL : List ByteArray) (hG : Gives (noteOf body gs) RL) : readB (noteOf body gs) RL = some (body, gs) := by
  obtain ⟨l1, l2, l3⟩ := lines_there gs hf
  have hE : ends body = true := by unfold goesB at hg; exact (Bool.and_eq_true _ _ ▸ hg).1
  obtain ⟨TL, _, hT⟩ := gives_ex body
  obtain ⟨t1, t2⟩ := hT hE
  have hall : noteOf body gs = flN (TL.reverse ++ ByteArray.empty :: gs.map lnB) := by
    unfold noteOf
    rw [flN_app, flN, ← t1, l2, ByteArray.empty_append, ByteArray.append_assoc]
    rfl
  have hno : ∀ l ∈ TL.reverse ++ ByteArray.empty :: gs.map lnB, no10 l := by
    intro l hl
    rcases List.mem_append.1 hl with hl | hl
    · exact t2 l (List.mem_reverse.1 hl)
    · rcases List.mem_cons.1 hl with rfl | hl
      · exact fun j hj => by cases hj
      · exact (l3 l hl).1
  rcases hG with ⟨hn, h10⟩ | ⟨he, rfl⟩
  · have e := fl_inj (fun l hl => h10 l (List.mem_reverse.1 hl)) hno (hn.symm.trans hall)
    have e2 : RL = (gs.map lnB).reverse ++ ByteArray.empty :: TL := by
      rw [← List.reverse_reverse RL, e]; simp
    subst e2
    obtain ⟨_, e3⟩ := readB_split (gs.map lnB).reverse TL (fun l hl => (l3 l (List.mem_reverse.1 hl)).2) _ hn
    rw [e3, List.length_reverse, List.length_map, if_pos h16, List.reverse_reverse, fwd_some _ [] gs l1 (by rw [List.nil_append]; exact hp), List.nil_append]
    simp only
    rw [← t1, if_pos ⟨h0, hg⟩]
  · exfalso
    rcases flN_ends (TL.reverse ++ ByteArray.empty :: gs.map lnB) with hz | hz
    · rw [flN_app, ByteArray.size_append, flN, ByteArray.size_append, ByteArray.size_append, nl_size] at hz
      omega
    · rw [← hall, he] at hz
      cases hz
end Go.Proofs.YthdkbjbhjfiaiaaGreatDoor.w1

namespace Go.Proofs.YthdkbjbhjfiaiaaGreatDoor.w2
open Go.RowKit Go.PlainAid
open Go.Proofs.YthdkbjbhjfiaiaaGreatDoor.mo Go.Proofs.YthdkbjbhjfiaiaaGreatDoor.nh Go.Proofs.YthdkbjbhjfiaiaaGreatDoor.ta Go.Proofs.YthdkbjbhjfiaiaaGreatDoor.tb Go.Proofs.YthdkbjbhjfiaiaaGreatDoor.tc Go.Proofs.YthdkbjbhjfiaiaaGreatDoor.tj Go.Proofs.YthdkbjbhjfiaiaaGreatDoor.n1 Go.Proofs.YthdkbjbhjfiaiaaGreatDoor.n3 Go.Proofs.YthdkbjbhjfiaiaaGreatDoor.n4 Go.Proofs.YthdkbjbhjfiaiaaGreatDoor.o1 Go.Proofs.YthdkbjbhjfiaiaaGreatDoor.o3 Go.Proofs.YthdkbjbhjfiaiaaGreatDoor.o6 Go.Proofs.YthdkbjbhjfiaiaaGreatDoor.o7 Go.Proofs.YthdkbjbhjfiaiaaGreatDoor.p1 Go.Proofs.YthdkbjbhjfiaiaaGreatDoor.p2 Go.Proofs.YthdkbjbhjfiaiaaGreatDoor.q1 Go.Proofs.YthdkbjbhjfiaiaaGreatDoor.q2 Go.Proofs.YthdkbjbhjfiaiaaGreatDoor.q3 Go.Proofs.YthdkbjbhjfiaiaaGreatDoor.q5 Go.Proofs.YthdkbjbhjfiaiaaGreatDoor.r1 Go.Proofs.YthdkbjbhjfiaiaaGreatDoor.s1 Go.Proofs.YthdkbjbhjfiaiaaGreatDoor.t5 Go.Proofs.YthdkbjbhjfiaiaaGreatDoor.v2 Go.Proofs.YthdkbjbhjfiaiaaGreatDoor.v4 Go.Proofs.YthdkbjbhjfiaiaaGreatDoor.w1
set_option linter.unusedVariables false
set_option maxRecDepth 4000

-- keys of unlike names
def Ds (l : List Ky) : Prop := l.Pairwise (fun a b => a.1 ≠ b.1)
def KGood (l : List Ky) : Prop := Ds l ∧ ∀ k ∈ l, nm k.1 = true
abbrev sgs (t : ByteArray) (l : List Ky) : List Sg := l.map (fun k => sigOf k t)
theorem ds_ix {l : List Ky} (h : Ds l) {i j : Nat} (hi : i < l.length) (hj : j < l.length) (e : (l[i]'hi).1 = (l[j]'hj).1) : i = j := by
  unfold Ds at h
  rw [List.pairwise_iff_getElem] at h
  rcases Nat.lt_trichotomy i j with c | c | c
  · exact absurd e (h i j hi hj c)
  · exact c
  · exact absurd e.symm (h j i hj hi c)
theorem one_name {a b : Sg} (h : a.name ≠ b.name) : one a b = false := by
  unfold one eqB
  rw [decide_eq_false h]
  rfl
theorem fine_sig {k : Ky} (t : ByteArray) (h : nm k.1 = true) : Fine (sigOf k t) := ⟨kid_size _ _, macF_size _ _, h⟩
theorem fine_sgs {t : ByteArray} {l : List Ky} (h : KGood l) : ∀ g ∈ sgs t l, Fine g := by
  intro g hg
  obtain ⟨k, hk, rfl⟩ := List.mem_map.1 hg
  exact fine_sig t (h.2 k hk)
theorem pw_sgs {t : ByteArray} {l : List Ky} (h : Ds l) : Pw (sgs t l) := by
  unfold Pw sgs
  rw [List.pairwise_map]
  exact List.Pairwise.imp (fun {a b} e => one_name e) h
theorem good_take {l : List Ky} (h : KGood l) (n : Nat) : KGood (l.take n) := ⟨h.1.sublist (List.take_sublist n l), fun k hk => h.2 k (List.mem_of_mem_take hk)⟩
-- which are picked
def pick (b : Nat → Bool) : Nat → List Ky → List Ky
  | _, [] => []
  | i, k :: ks => if b i = true then k :: pick b (i + 1) ks else pick b (i + 1) ks
theorem pick_snoc (b : Nat → Bool) : ∀ (l : List Ky) (i : Nat) (k : Ky), pick b i (l ++ [k]) = pick b i l ++ (if b (i + l.length) = true then [k] else [])
  | [], i, k => by simp [pick]
  | x :: l, i, k => by
    rw [List.cons_append, pick, pick, pick_snoc b l (i + 1) k]
    have e : i + 1 + l.length = i + (x :: l).length := by simp; omega
    rw [e]
    split <;> simp
theorem pick_len (b : Nat → Bool) : ∀ (l : List Ky) (i : Nat), (pick b i l).length ≤ l.length
  | [], i => by simp [pick]
  | x :: l, i => by
    rw [pick]
    have := pick_len b l (i + 1)
    split <;> simp <;> omega
theorem pick_mem (b : Nat → Bool) : ∀ (l : List Ky) (i : Nat) (k : Ky), k ∈ pick b i l ↔ ∃ j, ∃ h : j < l.length, l[j]'h = k ∧ b (i + j) = true
  | [], i, k => by simp [pick]
  | x :: l, i, k => by
    have ih := pick_mem b l (i + 1) k
    have shift : (∃ j, ∃ h : j < (x :: l).length, (x :: l)[j]'h = k ∧ b (i + j) = true) ↔ (x = k ∧ b i = true) ∨ ∃ j, ∃ h : j < l.length, l[j]'h = k ∧ b (i + 1 + j) = true := by
      constructor
      · rintro ⟨j, h, h1, h2⟩
        cases j with
        | zero => exact .inl ⟨h1, h2⟩
        | succ j => exact .inr ⟨j, by simpa using h, by simpa using h1, by rw [show i + 1 + j = i + (j + 1) by omega]; exact h2⟩
      · rintro (⟨h1, h2⟩ | ⟨j, h, h1, h2⟩)
        · exact ⟨0, by simp, h1, h2⟩
        · exact ⟨j + 1, by simpa using h, by simpa using h1, by rw [show i + (j + 1) = i + 1 + j by omega]; exact h2⟩
    rw [shift, pick]
    split
    · rename_i hb
      rw [List.mem_cons, ih]
      constructor
      · rintro (rfl | h)
        · exact .inl ⟨rfl, hb⟩
        · exact .inr h
      · rintro (⟨rfl, _⟩ | h)
        · exact .inl rfl
        · exact .inr h
    · rename_i hb
      rw [ih]
      constructor
      · exact fun h => .inr h
      · rintro (⟨_, h⟩ | h)
        · exact absurd h hb
        · exact h
-- the owner among some keys
theorem own_no (g : Sg) (l : List Ky) : ∀ n, (∀ k ∈ l, kg k g = false) → ownF g l n = -1 := by
  induction l with
  | nil => intro n _; rfl
  | cons k l ih =>
    intro n h
    unfold ownF
    rw [if_neg (by rw [h k (by simp)]; decide)]
    exact ih (n + 1) (fun x hx => h x (by simp [hx]))
theorem own_yes (g : Sg) (l : List Ky) : ∀ n, (∃ k ∈ l, kg k g = true) → ∃ j, ∃ h : j < l.length, ownF g l n = ((n + j : Nat) : Int) ∧ kg (l[j]'h) g = true := by
  induction l with
  | nil => rintro n ⟨k, hk, _⟩; cases hk
  | cons k l ih =>
    intro n h
    unfold ownF
    by_cases hk : kg k g = true
    · rw [if_pos hk]
      exact ⟨0, by simp, by simp, hk⟩
    · rw [if_neg hk]
      obtain ⟨x, hx, hg⟩ := h
      rcases List.mem_cons.1 hx with rfl | hx
      · exact absurd hg hk
      · obtain ⟨j, hj, h1, h2⟩ := ih (n + 1) ⟨x, hx, hg⟩
        exact ⟨j + 1, by simpa using hj, by rw [h1]; congr 1; omega, by simpa using h2⟩
theorem kg_sig (k k' : Ky) (t : ByteArray) : kg k' (sigOf k t) = true ↔ k.1 = k'.1 ∧ kidF k.1 k.2 = kidF k'.1 k'.2 := by
  unfold kg one
  rw [Bool.and_eq_true, eqB_true, eqB_true]
  rfl
theorem kg_own (k : Ky) (t : ByteArray) : kg k (sigOf k t) = true := (kg_sig k k t).2 ⟨rfl, rfl⟩
theorem op_pick (M : List Ky) (t : ByteArray) (b : Nat → Bool) : ∀ (ks : List Ky) (i : Nat) (s : List Sg × List Sg), (∀ j, ∀ h : j < ks.length, (b (i + j) = true → 0 ≤ ownF (sigOf (ks[j]'h) t) M 0 ∧ sec M (sigOf (ks[j]'h) t) = (ks[j]'h).2) ∧ (b (i + j) = false → ownF (sigOf (ks[j]'h) t) M 0 < 0)) →
    opF M t (sgs t ks) s = some (s.1 ++ sgs t (pick b i ks), s.2 ++ sgs t (pick (fun j => !b j) i ks))
  | [], i, s, _ => by simp [opF, pick, sgs]
  | k :: ks, i, s, h => by
    have h0 := h 0 (by simp)
    rw [Nat.add_zero] at h0
    simp only [List.getElem_cons_zero] at h0
    have ih := fun s => op_pick M t b ks (i + 1) s (fun j hj => by
      have := h (j + 1) (by simpa using hj)
      rw [show i + (j + 1) = i + 1 + j by omega] at this
      simpa using this)
    show opF M t (sigOf k t :: sgs t ks) s = _
    rw [opF]
    cases hb : b i
    · rw [if_pos (h0.2 hb), ih]
      simp [pick, hb, sgs]
    · obtain ⟨g1, g2⟩ := h0.1 hb
      rw [if_neg (by omega), if_pos (by rw [g2]; rfl), ih]
      simp [pick, hb, sgs]
theorem op_mine (l : List Ky) (hd : Ds l) (t : ByteArray) (b : Nat → Bool) : opF (pick b 0 l) t (sgs t l) ([], []) = some (sgs t (pick b 0 l), sgs t (pick (fun j => !b j) 0 l)) := by
  rw [op_pick (pick b 0 l) t b l 0 ([], []) ?_, List.nil_append, List.nil_append]
  intro j hj
  rw [Nat.zero_add]
  constructor
  · intro hb
    have hm : l[j] ∈ pick b 0 l := (pick_mem b l 0 _).2 ⟨j, hj, rfl, by rw [Nat.zero_add]; exact hb⟩
    obtain ⟨i, hi, h1, h2⟩ := own_yes (sigOf l[j] t) (pick b 0 l) 0 ⟨l[j], hm, kg_own _ _⟩
    refine ⟨by omega, ?_⟩
    obtain ⟨e1, _⟩ := (kg_sig _ _ _).1 h2
    obtain ⟨j', hj', e2, _⟩ := (pick_mem b l 0 _).1 (List.getElem_mem hi)
    have ej : j = j' := ds_ix hd hj hj' (by rw [e2]; exact e1)
    subst ej
    unfold sec
    rw [h1, Nat.zero_add, Int.toNat_natCast, List.getD_eq_getElem?_getD, List.getElem?_eq_getElem hi]
    simp only [Option.getD_some]
    rw [← e2]
  · intro hb
    rw [own_no]
    · omega
    · intro k hk
      obtain ⟨j', hj', e2, hb'⟩ := (pick_mem b l 0 _).1 hk
      cases hkg : kg k (sigOf l[j] t)
      · rfl
      · obtain ⟨e1, _⟩ := (kg_sig _ _ _).1 hkg
        have ej : j = j' := ds_ix hd hj hj' (by rw [e2]; exact e1)
        subst ej
        rw [Nat.zero_add, hb] at hb'
        cases hb'
-- the answers over a note of one's own
theorem note_size (t : ByteArray) (l : List Ky) (h : KGood l) (h8 : l.length ≤ 8) (ht : t.size ≤ 20001) : (noteOf t (sgs t l)).size ≤ 30000 := by
  have h1 := sz_small l h.2
  have h2 := ln_sz l t
  have h3 : (noteOf t (sgs t l)).size = t.size + 1 + szL l := by
    unfold noteOf
    rw [ByteArray.size_append, ByteArray.size_append]
    have e : (flatB ((sgs t l).map lineOf)).size = szL l := flat_size l t
    rw [e]
    rfl
  omega
theorem sign_note (t : ByteArray) (l : List Ky) (hg : goesB t = true) (h : KGood l) (h0 : l.length ≠ 0) (h8 : l.length ≤ 8) (ht : t.size ≤ 20001) (he : tgF [] l = 0) : signV t l = .tuple #[.string (noteOf t (sgs t l)), .int .i64 0] := by
  have hs := sz_small l h.2
  have e : signE t l = 0 := by
    unfold signE
    rw [if_neg (by rw [hg]; decide), if_neg h0, if_neg (by omega), if_neg (by rw [he]; decide), if_neg (by omega)]
  unfold signV signT
  rw [e, if_pos rfl]
theorem tg_ok : ∀ (ks : List Ky) (d : List Sg), (∀ k ∈ ks, nm k.1 = true) → (∀ k ∈ ks, ∀ a ∈ d, a.name ≠ k.1) → Ds ks → tgF d ks = 0
  | [], _, _, _, _ => rfl
  | k :: ks, d, h1, h2, h3 => by
    unfold Ds at h3
    rw [List.pairwise_cons] at h3
    have ha : amg d ⟨k.1, kidF k.1 k.2, ByteArray.empty⟩ = false := amg_false.2 (fun a ha => one_name (h2 k (by simp) a ha))
    unfold tgF
    rw [if_neg (by rw [h1 k (by simp)]; decide), if_neg (by rw [ha]; decide)]
    refine tg_ok ks _ (fun x hx => h1 x (by simp [hx])) (fun x hx a haa => ?_) h3.2
    rcases List.mem_append.1 haa with haa | haa
    · exact h2 x (by simp [hx]) a haa
    · rw [List.mem_singleton.1 haa]
      exact h3.1 x hx
theorem tg_good {l : List Ky} (h : KGood l) : tgF [] l = 0 := tg_ok l [] h.2 (fun _ _ a ha => by cases ha) h.1
theorem read_good (t : ByteArray) (l : List Ky) (hg : goesB t = true) (h : KGood l) (h0 : l.length ≠ 0) (h8 : l.length ≤ 8) (RL : List ByteArray) (hG : Gives (noteOf t (sgs t l)) RL) : readB (noteOf t (sgs t l)) RL = some (t, sgs t l) :=
  note_there t _ hg (fine_sgs h) (pw_sgs h.1) (by rw [List.length_map]; exact h0) (by rw [List.length_map]; omega) RL hG
theorem sgs_snoc (t : ByteArray) (l : List Ky) (k : Ky) : sgs t (l ++ [k]) = sgs t l ++ [sigOf k t] := by simp [sgs]
theorem note_snoc1 (t : ByteArray) (l : List Ky) (k : Ky) : noteOf t (sgs t (l ++ [k])) = noteOf t (sgs t l) ++ lineOf (sigOf k t) := by
  unfold noteOf
  rw [sgs_snoc, List.map_append, flat_app, ← ByteArray.append_assoc]
  congr 1
  show lineOf (sigOf k t) ++ ByteArray.empty = _
  rw [ByteArray.append_empty]
theorem add_new (t : ByteArray) (l : List Ky) (k : Ky) (hg : goesB t = true) (h : KGood (l ++ [k])) (h0 : l.length ≠ 0) (h8 : l.length < 8) (ht : t.size ≤ 20001) (RL : List ByteArray) (hG : Gives (noteOf t (sgs t l)) RL) : addB (noteOf t (sgs t l)) RL k.1 k.2 = (noteOf t (sgs t (l ++ [k])), 0) := by
  have hl : KGood l := by have := good_take h l.length; rwa [List.take_left'] at this; rfl
  have hz := note_size t _ h (by simp; omega) ht
  rw [note_snoc1, ByteArray.size_append] at hz
  have hnk : nm k.1 = true := h.2 k (by simp)
  have ha : amg (sgs t l) ⟨k.1, kidF k.1 k.2, ByteArray.empty⟩ = false := amg_false.2 (fun a ha => by
    obtain ⟨x, hx, rfl⟩ := List.mem_map.1 ha
    exact one_name ((List.pairwise_append.1 h.1).2.2 x hx k (by simp)))
  unfold addB
  rw [if_pos hnk, if_neg (by omega), read_good t l hg hl h0 (by omega) RL hG]
  simp only
  rw [if_neg (by rw [ha]; decide), if_neg (by rw [List.length_map]; omega), if_neg (show ¬ 65536 < (noteOf t (sgs t l)).size + (lineOf (sigOf (k.1, k.2) t)).size from by show ¬ 65536 < (noteOf t (sgs t l)).size + (lineOf (sigOf k t)).size; omega), note_snoc1]
theorem add_old (t : ByteArray) (l : List Ky) (k : Ky) (hg : goesB t = true) (h : KGood l) (h8 : l.length ≤ 8) (ht : t.size ≤ 20001) (hk : k ∈ l) (RL : List ByteArray) (hG : Gives (noteOf t (sgs t l)) RL) : addB (noteOf t (sgs t l)) RL k.1 k.2 = (noteOf t (sgs t l), 0) := by
  have hz := note_size t _ h h8 ht
  have h0 : l.length ≠ 0 := by intro e; rw [List.length_eq_zero_iff.1 e] at hk; cases hk
  have ha : amg (sgs t l) ⟨k.1, kidF k.1 k.2, ByteArray.empty⟩ = true := by
    unfold amg
    rw [List.any_eq_true]
    refine ⟨sigOf k t, List.mem_map.2 ⟨k, hk, rfl⟩, ?_⟩
    unfold one
    rw [Bool.and_eq_true, eqB_true, eqB_true]
    exact ⟨rfl, rfl⟩
  unfold addB
  rw [if_pos (h.2 k hk), if_neg (by omega), read_good t l hg h h0 h8 RL hG]
  simp only
  rw [if_pos ha]
theorem open_mine (t : ByteArray) (l : List Ky) (b : Nat → Bool) (hg : goesB t = true) (h : KGood l) (h0 : l.length ≠ 0) (h8 : l.length ≤ 8) (ht : t.size ≤ 20001) (RL : List ByteArray) (hG : Gives (noteOf t (sgs t l)) RL) :
    opB (noteOf t (sgs t l)) RL (pick b 0 l) = if (pick b 0 l).length = 0 then noO 202 else ((t, sgs t (pick b 0 l), sgs t (pick (fun j => !b j) 0 l)), 0) := by
  have hz := note_size t _ h h8 ht
  unfold opB
  rw [if_neg (by omega), read_good t l hg h h0 h8 RL hG]
  simp only
  rw [op_mine l h.1 t b]
  simp only [List.length_map]
end Go.Proofs.YthdkbjbhjfiaiaaGreatDoor.w2

namespace Go.Proofs.YthdkbjbhjfiaiaaGreatDoor.w3
open Go.RowKit Go.PlainAid
open Go.Proofs.YthdkbjbhjfiaiaaGreatDoor.mo Go.Proofs.YthdkbjbhjfiaiaaGreatDoor.nh Go.Proofs.YthdkbjbhjfiaiaaGreatDoor.ta Go.Proofs.YthdkbjbhjfiaiaaGreatDoor.tb Go.Proofs.YthdkbjbhjfiaiaaGreatDoor.tc Go.Proofs.YthdkbjbhjfiaiaaGreatDoor.tj Go.Proofs.YthdkbjbhjfiaiaaGreatDoor.n1 Go.Proofs.YthdkbjbhjfiaiaaGreatDoor.n3 Go.Proofs.YthdkbjbhjfiaiaaGreatDoor.n4 Go.Proofs.YthdkbjbhjfiaiaaGreatDoor.o1 Go.Proofs.YthdkbjbhjfiaiaaGreatDoor.o3 Go.Proofs.YthdkbjbhjfiaiaaGreatDoor.kp Go.Proofs.YthdkbjbhjfiaiaaGreatDoor.w1 Go.Proofs.YthdkbjbhjfiaiaaGreatDoor.w2
open Go.Proofs.YthdkbjbhjfiaiaaGreatDoor.ka (new_text)
open Go.Proofs.YthdkbjbhjfiaiaaGreatDoor.uc (pr)
set_option linter.unusedVariables false
set_option maxRecDepth 4000

-- bytes that are kept
def accL (lim : Nat) (p : Int → Bool) : List Int → List Int → List Int
  | [], o => o
  | b :: r, o => if o.length < lim then accL lim p r (if p b = true then o ++ [b] else o) else o
theorem acc_all (lim : Nat) (p : Int → Bool) (P : Int → Prop) : ∀ (l o : List Int), (∀ x ∈ l, p x = true → P x) → (∀ x ∈ o, P x) → o.length ≤ lim → (∀ x ∈ accL lim p l o, P x) ∧ (accL lim p l o).length ≤ lim
  | [], o, _, h, hl => ⟨h, hl⟩
  | b :: r, o, h1, h, hl => by
    rw [accL]
    split
    · rename_i hlt
      refine acc_all lim p P r _ (fun x hx => h1 x (by simp [hx])) (fun x hx => ?_) ?_
      · split at hx
        · rename_i hp
          rcases List.mem_append.1 hx with hx | hx
          · exact h x hx
          · rw [List.mem_singleton.1 hx]; exact h1 b (by simp) hp
        · exact h x hx
      · split
        · simp; omega
        · exact hl
    · exact ⟨h, hl⟩
theorem acc_step (lim : Nat) (p : Int → Bool) (s : ByteArray) (k : Nat) (h : k < s.size) (o : List Int) (hl : o.length < lim) : accL lim p ((bs s).drop k) o = accL lim p ((bs s).drop (k + 1)) (if p (bt s k) = true then o ++ [bt s k] else o) := by
  rw [List.drop_eq_getElem_cons (by rw [bs_length]; exact h), bs_get s k h, accL, if_pos hl]
theorem acc_end (lim : Nat) (p : Int → Bool) (s : ByteArray) (o : List Int) : accL lim p ((bs s).drop s.size) o = o := by
  rw [List.drop_of_length_le (by rw [bs_length]; exact Nat.le_refl _), accL]
theorem acc_full (lim : Nat) (p : Int → Bool) (l o : List Int) (h : ¬ o.length < lim) : accL lim p l o = o := by
  cases l with
  | nil => rfl
  | cons b r => rw [accL, if_neg h]
def nmL (s : ByteArray) : List Int := accL 64 ok1 (bs s) []
def nmd (s : ByteArray) : ByteArray := if (nmL s).length = 0 then ⟨#[110]⟩ else str (nmL s)
def okl (b : Int) : Bool := b == 10 || (decide (32 ≤ b) && decide (b ≤ 126))
def ldL (s : ByteArray) : List Int := accL 20000 okl (bs s) []
def lnd (s : ByteArray) : ByteArray := str (ldL s ++ [10])
theorem nml_all (s : ByteArray) : (∀ x ∈ nmL s, ok1 x = true) ∧ (nmL s).length ≤ 64 := acc_all 64 ok1 (fun x => ok1 x = true) (bs s) [] (fun x _ h => h) (fun x h => by cases h) (by simp)
theorem ok1_in {x : Int} (h : ok1 x = true) : 0 ≤ x ∧ x < 256 := by
  unfold ok1 pr at h
  simp only [Bool.and_eq_true, decide_eq_true_eq] at h
  omega
theorem nm_nmd (s : ByteArray) : nm (nmd s) = true := by
  unfold nmd
  split
  · decide +kernel
  · rename_i h0
    obtain ⟨h1, h2⟩ := nml_all s
    have hin : In 256 (nmL s) := fun x hx => ok1_in (h1 x hx)
    unfold nm
    rw [str_size, bs_str _ hin, decide_eq_true h0, decide_eq_true h2, Bool.true_and, Bool.true_and, List.all_eq_true]
    exact h1
theorem okl_in {x : Int} (h : okl x = true) : (x = 10 ∨ 32 ≤ x) ∧ 0 ≤ x ∧ x ≤ 126 := by
  unfold okl at h
  simp only [Bool.or_eq_true, Bool.and_eq_true, decide_eq_true_eq, beq_iff_eq] at h
  omega
theorem ld_all (s : ByteArray) : (∀ x ∈ ldL s, okl x = true) ∧ (ldL s).length ≤ 20000 := acc_all 20000 okl (fun x => okl x = true) (bs s) [] (fun x _ h => h) (fun x h => by cases h) (by simp)
theorem lnd_size (s : ByteArray) : (lnd s).size ≤ 20001 := by
  unfold lnd
  rw [str_size, List.length_append]
  have := (ld_all s).2
  simp; omega
theorem rd_ascii (s : ByteArray) (h : ∀ k, (hk : k < s.size) → (s[k]'hk).toNat < 128 ∧ (32 ≤ (s[k]'hk).toNat ∨ (s[k]'hk).toNat = 10)) : ∀ f p, rdF s f p = true
  | 0, p => rfl
  | f + 1, p => by
    unfold rdF
    by_cases hp : p < s.size
    · obtain ⟨h1, h2⟩ := h p hp
      have hd := decode_ascii s p hp h1
      rw [if_pos hp, if_neg (by rw [hd]; show ¬ ((s[p]'hp).toNat < 32 ∧ (s[p]'hp).toNat ≠ 10); omega), if_neg (by intro hb; have := hb.1; rw [hd] at this; have e : (s[p]'hp).toNat = 65533 := this; omega)]
      exact rd_ascii s h f _
    · rw [if_neg hp]
theorem goes_lnd (s : ByteArray) : goesB (lnd s) = true := by
  obtain ⟨h1, _⟩ := ld_all s
  have hall : ∀ x ∈ ldL s ++ [10], okl x = true := by
    intro x hx
    rcases List.mem_append.1 hx with hx | hx
    · exact h1 x hx
    · rw [List.mem_singleton.1 hx]; rfl
  have hz : (lnd s).size = (ldL s).length + 1 := by unfold lnd; rw [str_size]; simp
  have hbt : ∀ k, (hk : k < (ldL s ++ [10]).length) → bt (lnd s) k = (ldL s ++ [10])[k]'hk := fun k hk => by
    have := okl_in (hall _ (List.getElem_mem hk))
    exact str_bt _ k hk this.2.1 (by omega)
  have he : ends (lnd s) = true := (ends_iff _).2 ⟨(ldL s).length, hz, by rw [hbt _ (by simp)]; simp⟩
  have hr : readable (lnd s) = true := rd_ascii (lnd s) (fun k hk => by
    have hkl : k < (ldL s ++ [10]).length := by rw [hz] at hk; simpa using hk
    have e := get_bt (lnd s) k hk
    rw [hbt k hkl] at e
    have := okl_in (hall _ (List.getElem_mem hkl))
    omega) _ _
  unfold goesB
  rw [he, hr]
  rfl
theorem one_b (x : Int) : ∀ u ∈ [Value.int .u8 x], u.oneCell' = true := by
  intro u hu; rw [List.mem_singleton.1 hu]; rfl
theorem own_form {w : World} {B t z n : Nat} {v : Value} {xs : List Value} (o : w.ownsRow B t z v n xs) : ∃ a c, v = .slice a n c := by
  rcases o.2 with ⟨rfl, h0⟩ | ⟨g, cap, cur, rfl, _⟩
  · exact ⟨none, 0, by rw [h0]⟩
  · exact ⟨_, cap, rfl⟩
end Go.Proofs.YthdkbjbhjfiaiaaGreatDoor.w3

namespace Go.Proofs.YthdkbjbhjfiaiaaGreatDoor.yta
open Go.RowKit Go.PlainAid Go.Shelf
open Go.Proofs.YthdkbjbhjfiaiaaGreatDoor.tb Go.Proofs.YthdkbjbhjfiaiaaGreatDoor.tc Go.Proofs.YthdkbjbhjfiaiaaGreatDoor.tj Go.Proofs.YthdkbjbhjfiaiaaGreatDoor.n1 Go.Proofs.YthdkbjbhjfiaiaaGreatDoor.n3 Go.Proofs.YthdkbjbhjfiaiaaGreatDoor.o2 Go.Proofs.YthdkbjbhjfiaiaaGreatDoor.vc Go.Proofs.YthdkbjbhjfiaiaaGreatDoor.yc Go.Proofs.YthdkbjbhjfiaiaaGreatDoor.sh
set_option linter.unusedVariables false
set_option maxRecDepth 4000

-- is it none of the lines that may stand there?
def nolB (s : ByteArray) : Bool := decide (s.size = 0) || (nl s || !readable s)
theorem eNoLine : ∀ args w, (callFunc 58 args).run Tryz.prog w = .ok (.enter 58 args) w := enters_of Tryz.func58 (by kernel_rfl) rfl
set_option maxHeartbeats 1600000 in
theorem noLineC (s : ByteArray) (hs : s.size ≤ 140737488355328) (w : World) :
    Calls Tryz.prog 58 #[.string s] w fun e w' => e = .returned (.bool (nolB s)) ∧ Below w.heap.size w w' := by
  have CN : Hid (∀ w, Calls _ _ _ _ _) := fun w => Any.strings_Contains_one lays144 s 10 w
  have HNL : Hid (nl s = decide (0 ≤ Lib.indexByte s.data.toList 10)) := rfl
  rw [← HNL.out] at CN
  have CR : Hid (∀ w, Calls _ _ _ _ _) := fun w => readableC s hs w
  by_cases h0 : s.size = 0
  · obtain ⟨h1, h2⟩ := yes_empty s h0
    have HE : Hid (nolB s = true) := by show _ = _; unfold nolB; rw [decide_eq_true h0]; rfl
    rw [HE.out]
    go_enter Tryz.func58, Tryz.ntmps58
    go_wp2
    go_ret
    exact ⟨rfl, Below.refl _ _⟩
  · obtain ⟨h1, h2⟩ := ne_empty s h0
    have HE : Hid (nolB s = (nl s || !readable s)) := by show _ = _; unfold nolB; rw [decide_eq_false h0]; rfl
    rw [HE.out]
    generalize nl s = a at *
    generalize readable s = b at *
    cases a
    · go_enter Tryz.func58, Tryz.ntmps58
      go_wp2_with fail
      refine (CN.out _).mono ?_
      rintro e w1 ⟨rfl, rfl⟩
      go_wp2_with fail
      refine (CR.out _).mono ?_
      rintro e w2 ⟨rfl, hb⟩
      have HB : Hid (Below _ _ _) := hb
      clear hb
      cases b
      · go_wp2
        go_ret
        exact ⟨rfl, HB.out⟩
      · go_wp2
        go_ret
        exact ⟨rfl, HB.out⟩
    · go_enter Tryz.func58, Tryz.ntmps58
      go_wp2_with fail
      refine (CN.out _).mono ?_
      rintro e w1 ⟨rfl, rfl⟩
      go_wp2
      go_ret
      exact ⟨rfl, Below.refl _ _⟩
-- the first of the texts that fits
def ixS (p : ByteArray → Bool) : List ByteArray → Nat → Int
  | [], _ => -1
  | g :: l, n => if p g then n else ixS p l (n + 1)
theorem ixS_drop (p : ByteArray → Bool) (l : List ByteArray) (k : Nat) (h : k < l.length) : ixS p (l.drop k) k = if p (l[k]'h) then (k : Int) else ixS p (l.drop (k + 1)) (k + 1) := by
  rw [List.drop_eq_getElem_cons h, ixS]
theorem ixS_ge (p : ByteArray → Bool) (l : List ByteArray) : ∀ n : Nat, 0 ≤ ixS p l n ↔ l.any p = true := by
  induction l with
  | nil => intro n; simp [ixS]
  | cons g l ih =>
    intro n
    unfold ixS
    by_cases h : p g = true
    · rw [if_pos h]; simp [h] <;> omega
    · rw [if_neg h, ih (n + 1)]; simp [h]
set_option maxHeartbeats 1600000 in
theorem indexS (v : Value) (l : List ByteArray) (p : ByteArray → Bool) (g : Nat) (eg : ∀ args w, (callFunc g args).run Tryz.prog w = .ok (.enter g args) w) (w : World) (hr : Reads w v l) (hz : l.length ≤ 1073741824)
    (hp : ∀ (W : World), ∀ x ∈ l, Calls Tryz.prog g #[.string x] W fun e w' => e = .returned (.bool (p x)) ∧ Below W.heap.size W w') :
    Calls Tryz.prog 88 #[v, .func (.func g) #[] #[]] w fun e w' => e = .returned (.int .i64 (ixS p l 0)) ∧ Below w.heap.size w w' := by
  obtain ⟨a, c, rfl, hcl⟩ := hr
  have HCL : Hid _ := hcl
  have HP : Hid _ := hp
  clear hcl hp
  obtain ⟨R, HR⟩ : ∃ R, Hid (ixS p l 0 = R) := ⟨_, rfl⟩
  rw [HR.out]
  obtain ⟨n, HN⟩ : ∃ n, Hid (l.length = n) := ⟨_, rfl⟩
  have hzn : n ≤ 1073741824 := by rw [← HN.out]; exact hz
  rw [HN.out] at HCL ⊢
  clear hz
  go_enter Tryz.func88, Tryz.ntmps88
  go_wp2
  go_loopw [5, 8] (fun _ i wr => ∃ k : Nat, k ≤ n ∧ i = .int .i64 k ∧ Hid (ixS p (l.drop k) k = R) ∧ Hid (Below w.heap.size w wr)) (fun _ i _ => (n - intOf i).toNat)
  case atStart => exact ⟨0, by omega, rfl, HR.out, Below.refl _ _⟩
  case round =>
    obtain ⟨k, hk, rfl, HK, HB⟩ := hrel
    by_cases hlt : k < n
    · have hlt' : (k : Int) < n := by omega
      have hkl : k < l.length := by rw [HN.out]; exact hlt
      obtain ⟨b, off, rfl, hc⟩ : ∃ b off, a = some ⟨b, off, none⟩ ∧ ∀ i, i < n → w.cell? ⟨b, off + i, none⟩ = some (.string (l.getD i ByteArray.empty)) := by
        rcases HCL.out with h | h
        · omega
        · exact h
      obtain ⟨x, HX⟩ : ∃ x, Hid (l[k]'hkl = x) := ⟨_, rfl⟩
      have hgd : l.getD k ByteArray.empty = x := by rw [List.getD_eq_getElem?_getD, List.getElem?_eq_getElem hkl, HX.out]; rfl
      have q1 := hc k hlt
      rw [hgd] at q1
      have c1 : wr.cell? ⟨b, off + k, none⟩ = some (.string x) := (HB.out.cell (p := ⟨b, off + k, none⟩) (World.block_lt_of_cell? _ _ q1)).trans q1
      have C1 : Hid (Calls _ _ _ _ _) := HP.out wr x (by rw [← HX.out]; exact List.getElem_mem hkl)
      have HS : Hid ((if p x then (k : Int) else ixS p (l.drop (k + 1)) (k + 1)) = R) := by show _ = _; rw [← HK.out, ixS_drop p l k hkl, HX.out]
      clear hc q1 HX hgd
      generalize hpx : p x = r at *
      clear hpx
      cases r
      · have HT : Hid (ixS p (l.drop (k + 1)) (k + 1) = R) := HS.out
        clear HS
        go_wp2_with fail
        refine C1.out.mono ?_
        rintro e w1 ⟨rfl, hb1⟩
        have HB1 : Hid (Below w.heap.size w w1) := HB.out.trans (hb1.mono HB.out.size)
        clear hb1
        go_wp2
        go_roundw
        case rel => exact ⟨k + 1, by omega, by go_num, HT, HB1⟩
        case measure => simp [intOf]; omega
      · have HT : Hid ((k : Int) = R) := HS.out
        clear HS
        go_wp2_with fail
        refine C1.out.mono ?_
        rintro e w1 ⟨rfl, hb1⟩
        have HB1 : Hid (Below w.heap.size w w1) := HB.out.trans (hb1.mono HB.out.size)
        clear hb1
        go_wp2
        go_ret
        exact ⟨by rw [← HT.out]; rfl, HB1.out⟩
    · have hlt' : ¬ (k : Int) < n := by omega
      have HE : Hid (R = -1) := by
        show _ = _
        rw [← HK.out, List.drop_of_length_le (by rw [HN.out]; omega)]
        rfl
      go_wp2
      go_ret
      exact ⟨by rw [HE.out]; rfl, HB.out⟩
set_option maxHeartbeats 800000 in
theorem containsS (v : Value) (l : List ByteArray) (p : ByteArray → Bool) (g : Nat) (eg : ∀ args w, (callFunc g args).run Tryz.prog w = .ok (.enter g args) w) (w : World) (hr : Reads w v l) (hz : l.length ≤ 1073741824)
    (hp : ∀ (W : World), ∀ x ∈ l, Calls Tryz.prog g #[.string x] W fun e w' => e = .returned (.bool (p x)) ∧ Below W.heap.size W w') :
    Calls Tryz.prog 57 #[v, .func (.func g) #[] #[]] w fun e w' => e = .returned (.bool (l.any p)) ∧ Below w.heap.size w w' := by
  have C : Hid (Calls _ _ _ _ _) := indexS v l p g eg w hr hz hp
  have HI := ixS_ge p l 0
  obtain ⟨a, c, rfl, _⟩ := hr
  generalize ixS p l 0 = i at *
  generalize l.any p = r at *
  have HR : Hid (decide (0 ≤ i) = r) := by
    show _ = _
    cases r
    · exact decide_eq_false (fun h => by have := HI.1 h; cases this)
    · exact decide_eq_true (HI.2 rfl)
  clear HI hp
  go_enter Tryz.func57, Tryz.ntmps57
  go_wp2_with fail
  refine C.out.mono ?_
  rintro e w1 ⟨rfl, hb1⟩
  have HB1 : Hid (Below w.heap.size w w1) := hb1
  clear hb1
  go_wp2
  go_ret
  exact ⟨congrArg (fun b => Ending.returned (.bool b)) HR.out, HB1.out⟩
theorem anyNoLine (v : Value) (l : List ByteArray) (w : World) (hr : Reads w v l) (hz : l.length ≤ 1073741824) (hs : ∀ x ∈ l, x.size ≤ 140737488355328) :
    Calls Tryz.prog 57 #[v, .func (.func 58) #[] #[]] w fun e w' => e = .returned (.bool (l.any nolB)) ∧ Below w.heap.size w w' :=
  containsS v l nolB 58 eNoLine w hr hz (fun W x hx => noLineC x (hs x hx) W)
-- room for n texts
theorem infoS : (Tryz.prog.info? 9).map (fun i => (i.zero, i.size, i.bytes)) = some (some (.string ⟨#[]⟩), 1, 16) := by kernel_rfl
set_option maxHeartbeats 1600000 in
theorem growS (n : Nat) (hn : n ≤ 1073741824) (w : World) :
    Calls Tryz.prog 96 #[.slice none 0 0, .int .i64 n] w fun e w' => (∃ a c, e = .returned (.slice a (0 : Nat) c) ∧ w'.ownsRow w.heap.size 9 1 (.slice a 0 c) 0 []) ∧ Below w.heap.size w w' := by
  obtain ⟨i0, hi, hz0, hz1, hz2⟩ := info_parts infoS
  by_cases h0 : n = 0
  · subst h0
    go_enter Tryz.func96, Tryz.ntmps96
    go_wp2
    go_ret
    exact ⟨⟨none, 0, rfl, World.ownsRow_nil _ _ _ _⟩, Below.refl _ _⟩
  · have hrz : ∀ ty, (Builtin.append_ #[28, 3] ty #[.slice none 0 0, .int .i64 (n : Int)]).run Tryz.prog w = .ok (.slice (some ⟨w.heap.size, 0, none⟩) n (grownCap w n 0 9)) (w.drew.alloc (.cells (Builtin.zeroCells (Value.string ⟨#[]⟩).cells n ++ Builtin.zeroCells (Value.string ⟨#[]⟩).cells (grownCap w n 0 9 - n)) 9)) := fun ty =>
      Lib.run_append_nil_zeros w 28 3 ty 9 i0 (.string ⟨#[]⟩) .i64 .i64 Tryz.underlying28 Tryz.underlying3 hi hz0 n (by omega) (by rw [hz1]; decide) (by omega) (by rw [hz2]; omega)
    have hge := grownCap_ge w n 0 9
    have hle := grownCap_le_maxLen w n 0 9 (by unfold maxLen; omega)
    obtain ⟨G, HG⟩ : ∃ G, Hid (grownCap w n 0 9 = G) := ⟨_, rfl⟩
    rw [HG.out] at hrz hge hle
    obtain ⟨V, HV⟩ : ∃ V, Hid (w.drew.alloc (.cells (Builtin.zeroCells (Value.string ⟨#[]⟩).cells n ++ Builtin.zeroCells (Value.string ⟨#[]⟩).cells (G - n)) 9) = V) := ⟨_, rfl⟩
    have HO : Hid (V.ownsRow w.heap.size 9 1 (.slice (some ⟨w.heap.size, 0, none⟩) 0 G) 0 []) := by
      rw [← HV.out]
      exact World.ownsRow_made w.drew _ G (Nat.le_refl _) hle (by
        have hc : (Value.string ⟨#[]⟩).cells.size = 1 := rfl
        simp only [Array.size_append, size_zeroCells, hc]; omega)
    have BV : Hid (Below w.heap.size w V) := by rw [← HV.out]; exact ((Below.refl _ _).drew).alloc (Nat.le_refl _) _
    rw [HV.out] at hrz
    have h1 : ¬ (n : Int) < 0 := by omega
    have h2 : (n : Int) > 0 := by omega
    have h3 : (0 : Int) ≤ (G : Int) := by omega
    unfold maxLen at hle
    clear h0 hi hz0 hz1 hz2
    go_enter Tryz.func96, Tryz.ntmps96
    go_wp2_with (at_builtin; refine Lib.wpList_append_run _ rfl _ _ _ _ rfl _ _ rfl rfl _ _ (hrz _) ?_)
    all_goals (go_ret; exact ⟨⟨_, _, rfl, HO.out⟩, BV.out⟩)
end Go.Proofs.YthdkbjbhjfiaiaaGreatDoor.yta

namespace Go.Proofs.YthdkbjbhjfiaiaaGreatDoor.ytb
open Go.RowKit Go.PlainAid Go.Shelf
open Go.Proofs.YthdkbjbhjfiaiaaGreatDoor.tb Go.Proofs.YthdkbjbhjfiaiaaGreatDoor.tc Go.Proofs.YthdkbjbhjfiaiaaGreatDoor.tj Go.Proofs.YthdkbjbhjfiaiaaGreatDoor.vc Go.Proofs.YthdkbjbhjfiaiaaGreatDoor.w3 Go.Proofs.YthdkbjbhjfiaiaaGreatDoor.yta
set_option linter.unusedVariables false
set_option maxRecDepth 4000

theorem one_texts (xs : List ByteArray) : ∀ u ∈ xs.map Value.string, u.oneCell' = true := by
  intro u hu
  obtain ⟨x, _, rfl⟩ := List.mem_map.1 hu
  rfl
theorem reads_cells {w : World} {b off n c : Nat} {xs : List ByteArray} (h : Reads w (.slice (some ⟨b, off, none⟩) n c) xs) : ∀ j u, (xs.map Value.string)[j]? = some u → w.cell? ((⟨b, off, none⟩ : Addr).add j) = some u := by
  obtain ⟨a, cap, e, h0⟩ := h
  injection e with e1 e2 e3
  intro j u hj
  have hjl : j < xs.length := by have := (List.getElem?_eq_some_iff.1 hj).1; rwa [List.length_map] at this
  rcases h0 with h0 | ⟨b', off', e4, hh⟩
  · omega
  · rw [← e1] at e4
    injection e4 with e4
    injection e4 with e5 e6
    subst e5 e6
    rw [Addr.add_mid, hh j hjl, ← hj, List.getElem?_map, List.getD_eq_getElem?_getD, List.getElem?_eq_getElem hjl]
    rfl
theorem reads_len {w : World} {a : Option Addr} {n c : Nat} {xs : List ByteArray} (h : Reads w (.slice a n c) xs) : xs.length = n ∧ (a = none → n = 0) := by
  obtain ⟨a', cap, e, h0⟩ := h
  injection e with e1 e2 e3
  refine ⟨e2.symm, fun ha => ?_⟩
  rcases h0 with h0 | ⟨b, off, e4, _⟩
  · omega
  · rw [← e1, ha] at e4; cases e4
def szK (n1 n2 k : Nat) : Nat := if k = 0 then 0 else if k = 1 then n1 else n1 + n2
def lsK (xs ys : List ByteArray) (k : Nat) : List ByteArray := if k = 0 then [] else if k = 1 then xs else xs ++ ys
set_option maxHeartbeats 6400000 in
theorem concatC (b off b1 o1 n1 c1 n2 c2 : Nat) (a2 : Option Addr) (xs ys : List ByteArray) (w : World) (h0 : w.cell? ⟨b, off, none⟩ = some (.slice (some ⟨b1, o1, none⟩) n1 c1)) (h1 : w.cell? ⟨b, off + 1, none⟩ = some (.slice a2 n2 c2))
    (hx : Reads w (.slice (some ⟨b1, o1, none⟩) n1 c1) xs) (hy : Reads w (.slice a2 n2 c2) ys) (hno : a2 = none → c2 = 0) (z1 : n1 ≤ 1000) (z2 : n2 ≤ 1000000000) :
    Calls Tryz.prog 62 #[.slice (some ⟨b, off, none⟩) 2 2] w fun e w' => (∃ a c, e = .returned (.slice a (n1 + n2 : Nat) c) ∧ w'.ownsRow w.heap.size 9 1 (.slice a (n1 + n2) c) (n1 + n2) ((xs ++ ys).map Value.string)) ∧ Below w.heap.size w w' := by
  obtain ⟨i0, hi, hz0, hz1, hz2⟩ := info_parts infoS
  have HIN : Hid (_ ∧ _ ∧ _ ∧ _) := ⟨hi, hz0, hz1, hz2⟩
  clear hi hz0 hz1 hz2
  have hlx := (reads_len hx).1
  have hly := reads_len hy
  have HX : Hid (Reads w (.slice (some ⟨b1, o1, none⟩) n1 c1) xs) := hx
  have HY : Hid (Reads w (.slice a2 n2 c2) ys) := hy
  have CG : Hid (∀ w, Calls _ _ _ _ _) := fun w => growS (n1 + n2) (by omega) w
  have H0 : Hid _ := h0
  have H1 : Hid _ := h1
  have hb0 : b < w.heap.size := World.block_lt_of_cell? _ _ h0
  clear hx hy
  have k1 : ¬ (n1 : Int) < 0 := by omega
  have k2 : ¬ (n1 : Int) + (n2 : Int) < 0 := by omega
  have k3 : ((n1 + n2 : Nat) : Int) = (n1 : Int) + (n2 : Int) := by omega
  rw [k3] at CG
  have HXL : Hid (xs.length = n1) := hlx
  have HYL : Hid (ys.length = n2 ∧ (a2 = none → n2 = 0)) := hly
  clear hlx hly
  go_enter Tryz.func62, Tryz.ntmps62
  go_wp2
  go_loopw [3, 11] (fun nv iv wr => ∃ k : Nat, k ≤ 2 ∧ iv = .int .i64 k ∧ nv = .int .i64 (szK n1 n2 k : Nat) ∧ wr = w) (fun _ iv _ => (2 - intOf iv).toNat)
  case atStart => exact ⟨0, by omega, rfl, rfl, rfl⟩
  case round =>
    obtain ⟨k, hk, rfl, rfl, rfl⟩ := hrel
    have hks : k = 0 ∨ k = 1 ∨ k = 2 := by omega
    rcases hks with rfl | rfl | rfl
    · have e0 : ((szK n1 n2 0 : Nat) : Int) = 0 := rfl
      go_wp2
      go_roundw
      case rel => exact ⟨1, by omega, by first | rfl | go_num, by first | rfl | (show Value.int _ _ = Value.int _ ((n1 : Nat) : Int); simp), trivial⟩
      case measure => simp [intOf]
    · have e0 : ((szK n1 n2 1 : Nat) : Int) = n1 := rfl
      go_wp2
      go_roundw
      case rel => exact ⟨2, by omega, by first | rfl | go_num, by first | rfl | (show Value.int _ _ = Value.int _ ((n1 + n2 : Nat) : Int); rw [k3]), trivial⟩
      case measure => simp [intOf]
    · have e0 : ((szK n1 n2 2 : Nat) : Int) = (n1 : Int) + n2 := by show ((n1 + n2 : Nat) : Int) = _; omega
      clear h0 h1
      go_wp2_with fail
      refine (CG.out _).mono ?_
      rintro e w1 ⟨⟨na, nc, rfl, hown⟩, hbb⟩
      have HO1 : Hid (w1.ownsRow wr.heap.size 9 1 (.slice na (0 : Nat) nc) 0 []) := hown
      have HB1 : Hid (Below wr.heap.size wr w1) := hbb
      clear hown hbb CG
      obtain ⟨wm, rfl⟩ : ∃ v, v = wr := ⟨_, rfl⟩
      go_wp2
      go_loopw [6, 27] (fun nv iv wi => ∃ (k : Nat) (a : Option Addr) (c : Nat), k ≤ 2 ∧ iv = .int .i64 k ∧ nv = .slice a (szK n1 n2 k) c ∧ Hid (wi.ownsRow wm.heap.size 9 1 (.slice a (szK n1 n2 k) c) (szK n1 n2 k) ((lsK xs ys k).map Value.string) ∧ Below wm.heap.size wm wi)) (fun _ iv _ => (2 - intOf iv).toNat)
      case atStart => exact ⟨0, na, nc, by omega, rfl, rfl, HO1.out, HB1.out⟩
      case round =>
        obtain ⟨k, oa, oc, hk2, rfl, rfl, HH⟩ := hrel
        have HO : Hid _ := HH.out.1
        have HB : Hid (Below wm.heap.size wm wr) := HH.out.2
        have c0 : wr.cell? ⟨b, off, none⟩ = some (.slice (some ⟨b1, o1, none⟩) n1 c1) := (HB.out.cell (p := ⟨b, off, none⟩) hb0).trans H0.out
        have c1' : wr.cell? ⟨b, off + 1, none⟩ = some (.slice a2 n2 c2) := (HB.out.cell (p := ⟨b, off + 1, none⟩) hb0).trans H1.out
        have hks : k = 0 ∨ k = 1 ∨ k = 2 := by omega
        clear HH
        rcases hks with rfl | rfl | rfl
        · have HO2 : Hid (wr.ownsRow wm.heap.size 9 1 (.slice oa 0 oc) 0 []) := HO.out
          have HNW : Hid (∀ j u, (xs.map Value.string)[j]? = some u → wr.cell? ((⟨b1, o1, none⟩ : Addr).add j) = some u) := reads_cells (HX.out.later HB.out)
          have hl : (xs.map Value.string).length = n1 * 1 := by rw [List.length_map, HXL.out, Nat.mul_one]
          have HL : Hid _ := hl
          have ez : szK n1 n2 0 = 0 := rfl
          rw [ez]
          clear c1' hl
          go_wp2_with (at_builtin; refine wpList_append_own _ rfl _ _ 28 rfl wm.heap.size 9 i0 (.string ⟨#[]⟩) 1 16 Tryz.underlying28 HIN.out.1 HIN.out.2.1 HIN.out.2.2.1 HIN.out.2.2.2 rfl (by decide) (.slice oa 0 oc) 0 [] rfl HO2.out ⟨b1, o1, none⟩ n1 c1 (xs.map Value.string) rfl HL.out HNW.out (one_texts _) (by unfold maxLen; omega) (by omega) HB.out.size ?_; intro v2 w2 hown2 hgr2 hnn2; have F2 : Hid (w2.ownsRow wm.heap.size 9 1 v2 n1 (xs.map Value.string)) := (by have := hown2; rw [Nat.zero_add, List.nil_append] at this; exact this); have B2 : Hid (Below wm.heap.size wm w2) := HB.out.grown hgr2 HB.out.size (fun j hj => (HO2.out.lt _ hj).1); clear hown2 hgr2 hnn2)
          obtain ⟨va, vc, hv⟩ := own_form F2.out
          subst hv
          go_roundw
          case rel => first | exact ⟨1, va, vc, by omega, by first | rfl | go_num, rfl, F2.out, B2.out⟩ | ((repeat apply Exists.intro); exact ⟨⟨(by omega : (1 : Nat) ≤ 2), by first | rfl | go_num, rfl, F2.out, B2.out⟩, rfl⟩)
          case measure => simp [intOf]
        · have HO2 : Hid (wr.ownsRow wm.heap.size 9 1 (.slice oa n1 oc) n1 (xs.map Value.string)) := HO.out
          have ez : szK n1 n2 1 = n1 := rfl
          rw [ez]
          clear c0
          cases a2 with
          | none =>
            have hn20 : n2 = 0 := HYL.out.2 rfl
            subst hn20
            have hy0 : ys = [] := List.length_eq_zero_iff.1 HYL.out.1
            have hc20 : c2 = 0 := hno rfl
            subst hc20
            have F2 : Hid (wr.ownsRow wm.heap.size 9 1 (.slice oa n1 oc) (n1 + 0) ((xs ++ ys).map Value.string)) := by rw [hy0, List.append_nil]; exact HO2.out
            clear hno hy0
            go_wp2_with (at_builtin; refine wpList_append_own_none rfl _ _ 28 rfl wm.heap.size 9 i0 1 Tryz.underlying28 HIN.out.1 (.slice oa n1 oc) n1 _ rfl HO2.out rfl ?_)
            go_roundw
            case rel => exact ⟨_, _, _, ⟨2, by omega, rfl, oa, oc, rfl, F2.out, HB.out⟩, rfl, rfl, rfl⟩
            case measure => simp [intOf]
          | some p =>
            obtain ⟨p1, p2, p3⟩ := p
            have hp3 : n2 = 0 ∨ p3 = none := by
              obtain ⟨a', cap, e, h0⟩ := HY.out
              injection e with e1 e2 e3
              rcases h0 with h0 | ⟨b', off', e4, _⟩
              · left; omega
              · right
                rw [← e1] at e4
                injection e4 with e4
                injection e4
            have HNW : Hid (∀ j u, (ys.map Value.string)[j]? = some u → wr.cell? ((⟨p1, p2, p3⟩ : Addr).add j) = some u) := by
              rcases hp3 with h | h
              · intro j u hj
                have := (List.getElem?_eq_some_iff.1 hj).1
                rw [List.length_map, HYL.out.1] at this
                omega
              · subst h
                exact reads_cells (HY.out.later HB.out)
            have hl : (ys.map Value.string).length = n2 * 1 := by rw [List.length_map, HYL.out.1, Nat.mul_one]
            have HL : Hid _ := hl
            clear hl hp3 hno
            go_wp2_with (at_builtin; refine wpList_append_own _ rfl _ _ 28 rfl wm.heap.size 9 i0 (.string ⟨#[]⟩) 1 16 Tryz.underlying28 HIN.out.1 HIN.out.2.1 HIN.out.2.2.1 HIN.out.2.2.2 rfl (by decide) (.slice oa n1 oc) n1 _ rfl HO2.out ⟨p1, p2, p3⟩ n2 c2 (ys.map Value.string) rfl HL.out HNW.out (one_texts _) (by unfold maxLen; omega) (by omega) HB.out.size ?_; intro v2 w2 hown2 hgr2 hnn2; have F2 : Hid (w2.ownsRow wm.heap.size 9 1 v2 (n1 + n2) ((xs ++ ys).map Value.string)) := (by rw [List.map_append]; exact hown2); have B2 : Hid (Below wm.heap.size wm w2) := HB.out.grown hgr2 HB.out.size (fun j hj => (HO2.out.lt _ hj).1); clear hown2 hgr2 hnn2)
            obtain ⟨va, vc, hv⟩ := own_form F2.out
            subst hv
            go_roundw
            case rel => first | exact ⟨2, va, vc, by omega, by first | rfl | go_num, rfl, F2.out, B2.out⟩ | ((repeat apply Exists.intro); exact ⟨⟨(by omega : (2 : Nat) ≤ 2), by first | rfl | go_num, rfl, F2.out, B2.out⟩, rfl⟩)
            case measure => simp [intOf]
        · have HO2 : Hid (wr.ownsRow wm.heap.size 9 1 (.slice oa (n1 + n2) oc) (n1 + n2) ((xs ++ ys).map Value.string)) := HO.out
          have ez : szK n1 n2 2 = n1 + n2 := rfl
          rw [ez]
          clear c0 c1'
          go_wp2
          go_ret
          exact ⟨⟨_, _, rfl, HO2.out⟩, HB.out⟩
end Go.Proofs.YthdkbjbhjfiaiaaGreatDoor.ytb

namespace Go.Proofs.YthdkbjbhjfiaiaaGreatDoor.ytc
open Go.RowKit Go.PlainAid Go.Shelf
open Go.Proofs.YthdkbjbhjfiaiaaGreatDoor.ta Go.Proofs.YthdkbjbhjfiaiaaGreatDoor.tb Go.Proofs.YthdkbjbhjfiaiaaGreatDoor.tc Go.Proofs.YthdkbjbhjfiaiaaGreatDoor.tj Go.Proofs.YthdkbjbhjfiaiaaGreatDoor.wa Go.Proofs.YthdkbjbhjfiaiaaGreatDoor.n3 Go.Proofs.YthdkbjbhjfiaiaaGreatDoor.q2 Go.Proofs.YthdkbjbhjfiaiaaGreatDoor.vc Go.Proofs.YthdkbjbhjfiaiaaGreatDoor.vd Go.Proofs.YthdkbjbhjfiaiaaGreatDoor.yc Go.Proofs.YthdkbjbhjfiaiaaGreatDoor.u1 Go.Proofs.YthdkbjbhjfiaiaaGreatDoor.w1 Go.Proofs.YthdkbjbhjfiaiaaGreatDoor.w3 Go.Proofs.YthdkbjbhjfiaiaaGreatDoor.yta Go.Proofs.YthdkbjbhjfiaiaaGreatDoor.ytb
set_option linter.unusedVariables false
set_option maxRecDepth 4000

-- a checkpoint's text
def txt (o : ByteArray) (n : Int) (r : ByteArray) (ext : List ByteArray) : ByteArray := flN ([o, decS n, str (b64L (bs r))] ++ ext)
def txE (o : ByteArray) (n : Int) (r : ByteArray) (ext : List ByteArray) : Int := if nm o = false then 203 else if n < 0 ∨ 4611686018427387904 < n then 10 else if r.size < 1 ∨ 32 < r.size then 72 else if ext.any nolB = true then 43 else 0
def txT (o : ByteArray) (n : Int) (r : ByteArray) (ext : List ByteArray) : ByteArray := if txE o n r ext = 0 then txt o n r ext else ByteArray.empty
def txV (o : ByteArray) (n : Int) (r : ByteArray) (ext : List ByteArray) : Value := .tuple #[.string (txT o n r ext), .int .i64 (txE o n r ext)]
theorem join_fl : ∀ xs : List ByteArray, (⟨(joinL xs).toArray⟩ : ByteArray) = flN xs
  | [] => rfl
  | x :: xs => by
    rw [flN, ← join_fl xs]
    apply ByteArray.ext
    simp only [ByteArray.data_append, nlB]
    apply Array.ext'
    simp [joinL]
theorem nl_nm {o : ByteArray} (h : nm o = true) : nl o = false := by
  cases e : nl o
  · rfl
  · have := (nm_all h).2 _ ((nl_iff o).1 e)
    omega
theorem nl_b64 (r : ByteArray) : nl (str (b64L (bs r))) = false := by
  cases e : nl (str (b64L (bs r)))
  · rfl
  · have h := (nl_iff _).1 e
    rw [bs_str _ (b64L_in _ (bs_in r))] at h
    exact absurd rfl (b64_no10 _ (bs_in r) _ h)
theorem nol_nl {x : ByteArray} (h : nolB x = false) : nl x = false := by
  unfold nolB at h
  simp only [Bool.or_eq_false_iff] at h
  exact h.2.1
theorem join_txt (o : ByteArray) (n : Int) (r : ByteArray) (ext : List ByteArray) (ho : nm o = true) (he : ext.any nolB = false) : joinV ([o, decS n, str (b64L (bs r))] ++ ext) = .tuple #[.string (txt o n r ext), .int .i64 0] := by
  unfold joinV
  rw [if_pos, join_fl]
  · rfl
  · rw [List.all_eq_true]
    intro x hx
    have hn : nl x = false := by
      rcases List.mem_append.1 hx with hx | hx
      · simp only [List.mem_cons, List.not_mem_nil, or_false] at hx
        rcases hx with rfl | rfl | rfl
        · exact nl_nm ho
        · exact nl_dec n
        · exact nl_b64 r
      · have := List.any_eq_false.1 he x hx
        exact nol_nl (by simpa using this)
    rw [hn]; rfl
theorem tk_sum (l : List ByteArray) : ∀ k, k ≤ l.length → tk l k = ((l.take k).map ByteArray.size).sum
  | 0, _ => rfl
  | k + 1, h => by
    show tk l k + (l.getD k ByteArray.empty).size = _
    rw [tk_sum l k (by omega), List.take_succ_eq_append_getElem (by omega : k < l.length), List.map_append, List.sum_append, List.getD_eq_getElem?_getD, List.getElem?_eq_getElem (by omega : k < l.length)]
    simp
theorem tk_all (l : List ByteArray) : tk l l.length = (l.map ByteArray.size).sum := by rw [tk_sum l _ (Nat.le_refl _), List.take_length]
theorem tk_app (xs ys : List ByteArray) : tk (xs ++ ys) (xs ++ ys).length = tk xs xs.length + tk ys ys.length := by
  rw [tk_all, tk_all, tk_all, List.map_append, List.sum_append]
theorem reads_three (w : World) (a b c : ByteArray) (t : TypeId) : Reads (w.alloc (.cells #[.string a, .string b, .string c] t)) (.slice (some ⟨w.heap.size, 0, none⟩) 3 3) [a, b, c] := by
  refine ⟨_, 3, rfl, .inr ⟨w.heap.size, 0, rfl, fun i hi => ?_⟩⟩
  rw [Nat.zero_add, World.cell?_alloc_at _ _ _ _ rfl]
  match i, hi with
  | 0, _ => rfl
  | 1, _ => rfl
  | 2, _ => rfl
theorem own_texts {w : World} {B n c : Nat} {a : Option Addr} {xs : List ByteArray} (h : w.ownsRow B 9 1 (.slice a n c) n (xs.map Value.string)) (hl : xs.length = n) : Reads w (.slice a n c) xs := by
  subst hl
  rcases h.2 with ⟨e, h0⟩ | ⟨g, cap, cur, e, _, h3, h4, h5, h6, h7⟩
  · injection e with e1 _ e3
    exact ⟨a, c, rfl, .inl h0⟩
  · injection e with e1 _ e3
    refine ⟨a, c, rfl, .inr ⟨g, 0, e1, fun i hi => ?_⟩⟩
    rw [cell_of_row _ _ _ _ _ _ h3, Nat.zero_add]
    have hh : (cur.toList.take (xs.length * 1))[i]? = some (.string (xs.getD i ByteArray.empty)) := by
      rw [h7, List.getElem?_map, List.getElem?_eq_getElem hi, List.getD_eq_getElem?_getD, List.getElem?_eq_getElem hi]
      rfl
    rw [List.getElem?_take_of_lt (by omega)] at hh
    simpa using hh
set_option maxHeartbeats 6400000 in
theorem textC (o : ByteArray) (n : Int) (r : ByteArray) (ext : List ByteArray) (a : Option Addr) (c : Nat) (w : World) (hn : I64 n) (zo : o.size ≤ 2000000) (zr : r.size ≤ 2000000) (hr : Reads w (.slice a ext.length c) ext) (hno : a = none → c = 0) (hz : tk ext ext.length + ext.length ≤ 2000000) (P : Hid (PowT w)) :
    Calls Tryz.prog 24 #[.agg #[.string o, .int .i64 n, .string r, .slice a ext.length c]] w fun e w' => e = .returned (txV o n r ext) ∧ Below w.heap.size w w' := by
  have HRD : Hid (Reads w (.slice a ext.length c) ext) := hr
  have C1 : Hid (∀ w, Calls _ _ _ _ _) := fun w => name o (by omega) w
  have hsx : ∀ x ∈ ext, x.size ≤ 140737488355328 := fun x hx => by
    obtain ⟨i, hi, rfl⟩ := List.getElem_of_mem hx
    have h1 := tk_mono ext (show i + 1 ≤ ext.length by omega)
    have h2 : tk ext (i + 1) = tk ext i + (ext.getD i ByteArray.empty).size := rfl
    rw [List.getD_eq_getElem?_getD, List.getElem?_eq_getElem hi] at h2
    simp only [Option.getD_some] at h2
    omega
  have C2 : Hid (∀ w', Below w.heap.size w w' → Calls _ _ _ _ _) := fun w' h => anyNoLine (.slice a ext.length c) ext w' (hr.later h) (by omega) hsx
  obtain ⟨m, HM⟩ : ∃ m, Hid (ext.length = m) := ⟨_, rfl⟩
  have hzm : m ≤ 2000000 := by rw [← HM.out]; omega
  obtain ⟨W, HW⟩ : ∃ W, Hid (w.alloc (.cells #[.string o, .int .i64 n, .string r, .slice a ext.length c] 30) = W) := ⟨_, rfl⟩
  have BW : Hid (Below w.heap.size w W) := by rw [← HW.out]; exact (Below.refl _ _).alloc (Nat.le_refl _) _
  have zW : w.heap.size + 1 ≤ W.heap.size := by rw [← HW.out]; simp
  have SX : Hid (∀ w', Below (w.heap.size + 1) W w' → w'.cell? ⟨w.heap.size, 0, none⟩ = some (.string o) ∧ w'.cell? ⟨w.heap.size, 1, none⟩ = some (.int .i64 n) ∧ w'.cell? ⟨w.heap.size, 2, none⟩ = some (.string r) ∧ w'.cell? ⟨w.heap.size, 3, none⟩ = some (.slice a ext.length c)) := by
    rw [← HW.out]; exact fun w' h => box4 w w' _ _ _ _ _ h
  have DW : Hid (∀ w', Below (w.heap.size + 1) W w' → Below w.heap.size w w') := fun w' h => BW.out.trans (h.mono (by omega))
  have PP : Hid (∀ w', Below w.heap.size w w' → PowT w') := fun w' h => P.out.down h
  obtain ⟨E, HE⟩ : ∃ E, Hid (txE o n r ext = E) := ⟨_, rfl⟩
  obtain ⟨X, HXX⟩ : ∃ X, Hid (txT o n r ext = X) := ⟨_, rfl⟩
  have HX0 : Hid (E ≠ 0 → X = ByteArray.empty) := fun h => by rw [← HXX.out]; unfold txT; rw [HE.out, if_neg h]
  have HX1 : Hid (E = 0 → X = txt o n r ext) := fun h => by rw [← HXX.out]; unfold txT; rw [HE.out, if_pos h]
  have HU := HE.out
  unfold txE at HU
  have HV : Hid (txV o n r ext = .tuple #[.string X, .int .i64 E]) := by show _ = _; unfold txV; rw [HXX.out, HE.out]
  rw [HV.out]
  obtain ⟨p0, p1, p2, p3⟩ := SX.out W (Below.refl _ _)
  obtain ⟨p, HPP⟩ : ∃ p, Hid (w.heap.size = p) := ⟨_, rfl⟩
  have FIN : Hid (∀ w', Below (p + 1) W w' → Below w.heap.size w w') := fun w' h => DW.out w' (by rw [HPP.out]; exact h)
  have HPW : Hid (p + 1 ≤ W.heap.size) := by rw [← HPP.out]; exact zW
  rw [HPP.out] at p0 p1 p2 p3 SX
  rw [HM.out] at p3 SX C2 ⊢
  have TOP : Hid (w.alloc (.cells #[.string o, .int .i64 n, .string r, .slice a m c] 30) = W) := by rw [← HM.out]; exact HW.out
  by_cases hnm : nm o = false
  · rw [if_pos hnm] at HU
    have HEE : Hid (E = 203) := HU.symm
    have HXE : Hid (X = ByteArray.empty) := HX0.out (by rw [HEE.out]; decide)
    rw [hnm] at C1
    clear HU hnm hr hsx zW hno
    go_enter Tryz.func24, Tryz.ntmps24
    go_wp2_with fail
    rw [HPP.out, TOP.out]
    go_wp2_with (go_at_call 56; refine (C1.out _).mono ?_; rintro e wz ⟨rfl, hz⟩; rw [hz]; clear hz wz)
    go_ret2
    exact ⟨by rw [HEE.out, HXE.out]; rfl, BW.out⟩
  · rw [if_neg hnm] at HU
    have hnt : nm o = true := by simpa using hnm
    have HNT : Hid (nm o = true) := hnt
    rw [hnt] at C1
    clear hnm hnt
    by_cases hc1 : n < 0 ∨ 4611686018427387904 < n
    · rw [if_pos hc1] at HU
      have HEE : Hid (E = 10) := HU.symm
      have HXE : Hid (X = ByteArray.empty) := HX0.out (by rw [HEE.out]; decide)
      have hcs : n < 0 ∨ (¬ n < 0 ∧ n > 4611686018427387904) := by omega
      clear HU hc1 hr hsx zW hno
      rcases hcs with h1 | ⟨h1, h2⟩
      · go_enter Tryz.func24, Tryz.ntmps24
        go_wp2_with fail
        rw [HPP.out, TOP.out]
        go_wp2_with (go_at_call 56; refine (C1.out _).mono ?_; rintro e wz ⟨rfl, hz⟩; rw [hz]; clear hz wz)
        go_ret2
        exact ⟨by rw [HEE.out, HXE.out]; rfl, BW.out⟩
      · go_enter Tryz.func24, Tryz.ntmps24
        go_wp2_with fail
        rw [HPP.out, TOP.out]
        go_wp2_with (go_at_call 56; refine (C1.out _).mono ?_; rintro e wz ⟨rfl, hz⟩; rw [hz]; clear hz wz)
        go_ret2
        exact ⟨by rw [HEE.out, HXE.out]; rfl, BW.out⟩
    · rw [if_neg hc1] at HU
      have h1 : ¬ n < 0 := by omega
      have h2 : ¬ n > 4611686018427387904 := by omega
      clear hc1
      by_cases hc2 : r.size < 1 ∨ 32 < r.size
      · rw [if_pos hc2] at HU
        have HEE : Hid (E = 72) := HU.symm
        have HXE : Hid (X = ByteArray.empty) := HX0.out (by rw [HEE.out]; decide)
        have hcs : (r.size : Int) < 1 ∨ (¬ (r.size : Int) < 1 ∧ (r.size : Int) > 32) := by omega
        clear HU hc2 hr hsx zW hno
        rcases hcs with h3 | ⟨h3, h4⟩
        · go_enter Tryz.func24, Tryz.ntmps24
          go_wp2_with fail
          rw [HPP.out, TOP.out]
          go_wp2_with (go_at_call 56; refine (C1.out _).mono ?_; rintro e wz ⟨rfl, hz⟩; rw [hz]; clear hz wz)
          go_ret2
          exact ⟨by rw [HEE.out, HXE.out]; rfl, BW.out⟩
        · go_enter Tryz.func24, Tryz.ntmps24
          go_wp2_with fail
          rw [HPP.out, TOP.out]
          go_wp2_with (go_at_call 56; refine (C1.out _).mono ?_; rintro e wz ⟨rfl, hz⟩; rw [hz]; clear hz wz)
          go_ret2
          exact ⟨by rw [HEE.out, HXE.out]; rfl, BW.out⟩
      · rw [if_neg hc2] at HU
        have h3 : ¬ (r.size : Int) < 1 := by omega
        have h4 : ¬ (r.size : Int) > 32 := by omega
        clear hc2
        have CX : Hid (Calls _ _ _ _ _) := C2.out W BW.out
        by_cases hc3 : ext.any nolB = true
        · rw [if_pos hc3] at HU
          rw [hc3] at CX
          have HEE : Hid (E = 43) := HU.symm
          have HXE : Hid (X = ByteArray.empty) := HX0.out (by rw [HEE.out]; decide)
          clear HU hc3 hr hsx zW hno C2
          go_enter Tryz.func24, Tryz.ntmps24
          go_wp2_with fail
          rw [HPP.out, TOP.out]
          go_wp2_with (first | (go_at_call 56; refine (C1.out _).mono ?_; rintro e wz ⟨rfl, hz⟩; rw [hz]; clear hz wz) | (go_at_call 57; refine CX.out.mono ?_; rintro e w1 ⟨rfl, hb1⟩; have B1 : Hid (Below w.heap.size w w1) := BW.out.trans (hb1.mono BW.out.size); clear hb1))
          go_ret2
          exact ⟨by rw [HEE.out, HXE.out]; rfl, B1.out⟩
        · rw [if_neg hc3] at HU
          have hcf : ext.any nolB = false := by simpa using hc3
          rw [hcf] at CX
          have HEE : Hid (E = 0) := HU.symm
          have HXE : Hid (X = txt o n r ext) := HX1.out HEE.out
          have HJT := join_txt o n r ext HNT.out hcf
          rw [← HXE.out] at HJT
          have zd := dec_size n hn
          have C3 : Hid (∀ w, PowT w → Calls _ _ _ _ _) := fun w => dec1 n hn w
          have C4 : Hid (∀ w, Calls _ _ _ _ _) := fun w => b64 r (by omega) w
          have zb : (str (b64L (bs r))).size ≤ 100 := by rw [str_size, b64L_length, bs_length]; omega
          obtain ⟨d, HD⟩ : ∃ d, Hid (decS n = d) := ⟨_, rfl⟩
          obtain ⟨q, HQ⟩ : ∃ q, Hid (str (b64L (bs r)) = q) := ⟨_, rfl⟩
          rw [HD.out, HQ.out] at HJT
          rw [HD.out] at C3 zd
          rw [HQ.out] at C4 zb
          have hj3 : tk ([o, d, q] ++ ext) ([o, d, q] ++ ext).length + ([o, d, q] ++ ext).length ≤ 1073741824 := by
            rw [tk_app, List.length_append]
            have e1 : tk [o, d, q] [o, d, q].length = o.size + d.size + q.size := by show 0 + o.size + d.size + q.size = _; omega
            have e2 : [o, d, q].length = 3 := rfl
            rw [e1, e2]
            omega
          have CJ : Hid (∀ w v, Reads w v ([o, d, q] ++ ext) → Calls Tryz.prog 61 #[v] w fun e w' => e = .returned (.tuple #[.string X, .int .i64 0]) ∧ Below w.heap.size w w') := fun w v h => by
            rw [← HJT]
            exact join v _ w h hj3
          have CC : Hid (∀ w b off b1, w.cell? ⟨b, off, none⟩ = some (.slice (some ⟨b1, 0, none⟩) (3 : Nat) 3) → w.cell? ⟨b, off + 1, none⟩ = some (.slice a m c) → Reads w (.slice (some ⟨b1, 0, none⟩) 3 3) [o, d, q] → Reads w (.slice a m c) ext → Calls _ _ _ _ _) := fun w b off b1 h5 h6 h7 h8 => concatC b off b1 0 3 3 m c a [o, d, q] ext w h5 h6 h7 h8 hno (by omega) (by omega)
          have HLX : Hid (([o, d, q] ++ ext).length = 3 + m) := by show _ = _; rw [List.length_append, HM.out]; rfl
          have SX2 : Hid _ := SX.out
          have HRL : Hid (∀ w', Below w.heap.size w w' → Reads w' (.slice a m c) ext) := fun w' h => by rw [← HM.out]; exact HRD.out.later h
          clear HU hc3 hcf HJT hj3 hr hsx zW hno C2 SX
          go_enter Tryz.func24, Tryz.ntmps24
          go_wp2_with fail
          rw [HPP.out, TOP.out]
          go_wp2_with (go_at_call 56; refine (C1.out _).mono ?_; rintro e wz ⟨rfl, hz⟩; rw [hz]; clear hz wz)
          refine CX.out.mono ?_
          rintro e w1 ⟨rfl, hb1⟩
          have B1 : Hid (Below (p + 1) W w1) := hb1.mono HPW.out
          clear hb1 p0 p1 p2 p3
          have D0 : Hid (Below (p + 1) W w1.drew) := Go.Proofs.YthdkbjbhjfiaiaaGreatDoor.tj.below_dN B1.out 1
          have SY : Hid (∀ w', Below (p + 1) W w' → w'.cell? ⟨p, 0, none⟩ = some (.string o) ∧ w'.cell? ⟨p, 1, none⟩ = some (.int .i64 n) ∧ w'.cell? ⟨p, 2, none⟩ = some (.string r)) := fun w' h => ⟨(SX2.out w' h).1, (SX2.out w' h).2.1, (SX2.out w' h).2.2.1⟩
          go_wp2_with fail
          go_cut [4] (fun cc wx => ∃ g, cc = .slice (some ⟨g, 0, none⟩) (3 : Nat) 3 ∧ Hid (Below (p + 1) W wx ∧ Reads wx (.slice (some ⟨g, 0, none⟩) 3 3) [o, d, q]))
          case first =>
            go_region_held3 (fun w' => w'.cell? ⟨p, 0, none⟩ = some (.string o) ∧ w'.cell? ⟨p, 1, none⟩ = some (.int .i64 n) ∧ w'.cell? ⟨p, 2, none⟩ = some (.string r)) (first | exact SY.out _ D0.out | exact SY.out _ D1.out | exact SY.out _ D2.out | exact SY.out _ D3.out) ((first | (go_at_call 59; refine (C3.out _ (PP.out _ (FIN.out _ D0.out))).mono ?_; rintro _ w2 ⟨rfl, k1⟩; have D1 : Hid (Below (p + 1) W w2) := D0.out.trans (k1.mono (Nat.le_trans HPW.out D0.out.size)); clear k1) | (go_at_call 60; refine (C4.out _).mono ?_; rintro _ w3 ⟨rfl, k2⟩; have D2 : Hid (Below (p + 1) W w3) := D1.out.trans (k2.mono (Nat.le_trans HPW.out D1.out.size)); clear k2; have D3 : Hid (Below (p + 1) W (w3.alloc (.cells #[.string o, .string d, .string q] 9))) := D2.out.alloc (Nat.le_trans HPW.out D2.out.size) _)))
            all_goals (
              go_wp2
              go_meet
              exact ⟨_, rfl, D3.out, reads_three _ _ _ _ _⟩)
          case rest =>
            obtain ⟨g, rfl, HW5⟩ := hcut
            have B5 : Hid (Below (p + 1) W wc) := HW5.out.1
            have R5 : Hid (Reads wc (.slice (some ⟨g, 0, none⟩) 3 3) [o, d, q]) := HW5.out.2
            obtain ⟨p0, p1, p2, p3⟩ := SX2.out wc B5.out
            obtain ⟨V, HVV⟩ : ∃ V, Hid (wc.alloc (.cells #[.slice (some ⟨g, 0, none⟩) (3 : Nat) 3, .slice a m c] 28) = V) := ⟨_, rfl⟩
            have BV : Hid (Below wc.heap.size wc V) := by rw [← HVV.out]; exact (Below.refl _ _).alloc (Nat.le_refl _) _
            have v0 : V.cell? ⟨wc.heap.size, 0, none⟩ = some (.slice (some ⟨g, 0, none⟩) (3 : Nat) 3) := by rw [← HVV.out, World.cell?_alloc_at _ _ _ _ rfl]; rfl
            have v1 : V.cell? ⟨wc.heap.size, 0 + 1, none⟩ = some (.slice a m c) := by rw [← HVV.out, World.cell?_alloc_at _ _ _ _ rfl]; rfl
            have BWV : Hid (Below w.heap.size w V) := (FIN.out _ B5.out).trans (BV.out.mono (FIN.out _ B5.out).size)
            have CC5 : Hid (Calls _ _ _ _ _) := CC.out V wc.heap.size 0 g v0 v1 (R5.out.later BV.out) (HRL.out V BWV.out)
            clear v0 v1
            go_wp2_with fail
            rw [HVV.out]
            refine CC5.out.mono ?_
            rintro e w6 ⟨⟨a6, c6, rfl, ho6⟩, hb6⟩
            have B6 : Hid (Below w.heap.size w w6) := BWV.out.trans (hb6.mono BWV.out.size)
            have R6 : Hid (Reads w6 (.slice a6 (3 + m) c6) ([o, d, q] ++ ext)) := own_texts ho6 HLX.out
            clear hb6 ho6 p0 p1 p2 p3
            go_wp2_with fail
            refine (CJ.out w6 _ R6.out).mono ?_
            rintro e w7 ⟨rfl, hb7⟩
            have B7 : Hid (Below w.heap.size w w7) := B6.out.trans (hb7.mono B6.out.size)
            clear hb7
            go_wp2
            go_ret2
            exact ⟨by rw [HEE.out]; rfl, B7.out⟩
end Go.Proofs.YthdkbjbhjfiaiaaGreatDoor.ytc

namespace Go.Proofs.YthdkbjbhjfiaiaaGreatDoor.ytd
open Go.RowKit Go.PlainAid Go.Shelf
open Go.Proofs.YthdkbjbhjfiaiaaGreatDoor.rc Go.Proofs.YthdkbjbhjfiaiaaGreatDoor.ta Go.Proofs.YthdkbjbhjfiaiaaGreatDoor.tb Go.Proofs.YthdkbjbhjfiaiaaGreatDoor.tc Go.Proofs.YthdkbjbhjfiaiaaGreatDoor.tj Go.Proofs.YthdkbjbhjfiaiaaGreatDoor.wa Go.Proofs.YthdkbjbhjfiaiaaGreatDoor.n1 Go.Proofs.YthdkbjbhjfiaiaaGreatDoor.n3 Go.Proofs.YthdkbjbhjfiaiaaGreatDoor.o3 Go.Proofs.YthdkbjbhjfiaiaaGreatDoor.o8 Go.Proofs.YthdkbjbhjfiaiaaGreatDoor.q2 Go.Proofs.YthdkbjbhjfiaiaaGreatDoor.t3 Go.Proofs.YthdkbjbhjfiaiaaGreatDoor.vc Go.Proofs.YthdkbjbhjfiaiaaGreatDoor.vd Go.Proofs.YthdkbjbhjfiaiaaGreatDoor.yc Go.Proofs.YthdkbjbhjfiaiaaGreatDoor.u1 Go.Proofs.YthdkbjbhjfiaiaaGreatDoor.w1 Go.Proofs.YthdkbjbhjfiaiaaGreatDoor.yta Go.Proofs.YthdkbjbhjfiaiaaGreatDoor.ytb Go.Proofs.YthdkbjbhjfiaiaaGreatDoor.ytc
set_option linter.unusedVariables false
set_option maxRecDepth 4000

theorem own_to {w : World} {B : Nat} {v : Value} {s : ByteArray} (h : OwB w B v s) : OwnM w B v s.size (bs s) := by
  obtain ⟨g, cap, rfl, h1, h2, h3, h4⟩ := h
  exact ⟨bs_length s, g, cap, rfl, h1, h2, fun j hj => by rw [h3 j hj, bt_getD], h4⟩
theorem own_back {w : World} {B : Nat} {v : Value} {s : ByteArray} (h : OwnM w B v (s.size + 1) (bs s ++ [10])) : OwB w B v (s ++ nlB) := by
  obtain ⟨hl, g, cap, rfl, h1, h2, h3, h4⟩ := h
  have hz : (s ++ nlB).size = s.size + 1 := by rw [ByteArray.size_append, nl_size]
  refine ⟨g, cap, by rw [hz], h1, h2, fun j hj => ?_, fun j ha hc => h4 j (by omega) hc⟩
  rw [h3 j (by omega), bt_getD, bs_app, bs_nl]
-- the document looks at the bytes
theorem nol_doc (x : ByteArray) : nolB x = (decide (x.size = 0) || (!plB x false || !Go.Proofs.YthdkbjbhjfiaiaaGreatDoor.n1.whole x)) := by
  unfold nolB
  congr 1
  by_cases h10 : nl x = true
  · have hp : plB x false = false := by
      unfold plB
      rw [List.all_eq_false]
      exact ⟨10, (nl_iff x).1 h10, by decide⟩
    rw [h10, hp]; rfl
  · have h10' : nl x = false := by simpa using h10
    have hno : ∀ y ∈ bs x, y ≠ 10 := fun y hy e => h10 ((nl_iff x).2 (by rw [← e]; exact hy))
    have hpl : plB x false = true ↔ plF x true 0 := by
      unfold plB plF
      rw [List.all_eq_true]
      constructor
      · intro h k _ hk
        have := h (bt x k) (by rw [← bs_get x k hk]; exact List.getElem_mem _)
        have e := get_bt x k hk
        unfold okB at this
        simp only [Bool.or_eq_true, Bool.and_eq_true, decide_eq_true_eq, Bool.false_eq_true, false_and, or_false] at this
        unfold okb
        simp only [Bool.or_eq_true, decide_eq_true_eq]
        left; omega
      · intro h y hy
        obtain ⟨k, hk, rfl⟩ := List.getElem_of_mem hy
        have hn := hno _ hy
        rw [bs_length] at hk
        rw [bs_get x k hk] at hn ⊢
        have h2 := h k (Nat.zero_le _) hk
        have e := get_bt x k hk
        unfold okb at h2
        simp only [Bool.or_eq_true, decide_eq_true_eq, Bool.true_and] at h2
        unfold okB
        simp only [Bool.or_eq_true, decide_eq_true_eq]
        left; omega
    have hr := readable_iff x
    rw [h10', Bool.false_or]
    cases ha : readable x
    · cases hb : plB x false
      · rfl
      · cases hc : Go.Proofs.YthdkbjbhjfiaiaaGreatDoor.n1.whole x
        · rfl
        · have := hr.2 ⟨hc, hpl.1 hb⟩
          rw [ha] at this; cases this
    · have := hr.1 ha
      rw [hpl.2 this.2, this.1]
      rfl
def tqB (o : ByteArray) (d : ByteArray) (b : ByteArray) : ByteArray := o ++ ⟨#[10]⟩ ++ d ++ ⟨#[10]⟩ ++ b ++ ⟨#[10]⟩
theorem txt_tq (o : ByteArray) (n : Int) (r : ByteArray) (ext : List ByteArray) : txt o n r ext = tqB o (decS n) (str (b64L (bs r))) ++ flN ext := by
  unfold txt tqB
  simp only [List.cons_append, List.nil_append, flN, ByteArray.append_assoc]
  rfl
theorem fl_size (l : List ByteArray) : (flN l).size = (l.map ByteArray.size).sum + l.length := by
  induction l with
  | nil => rfl
  | cons x l ih => rw [flN, ByteArray.size_append, ByteArray.size_append, nl_size, ih]; simp; omega
theorem fl_take (l : List ByteArray) (k : Nat) (h : k < l.length) : flN (l.take (k + 1)) = flN (l.take k) ++ l[k]'h ++ nlB := by
  rw [List.take_succ_eq_append_getElem h, flN_snoc]
theorem rd_at {w : World} {a : Option Addr} {n c : Nat} {l : List ByteArray} (h : Reads w (.slice a n c) l) (i : Nat) (hi : i < l.length) : ∃ b off, a = some ⟨b, off, none⟩ ∧ b < w.heap.size ∧ w.cell? ⟨b, off + i, none⟩ = some (.string (l[i]'hi)) := by
  obtain ⟨a', cap, e, h0⟩ := h
  injection e with e1 e2 e3
  rcases h0 with h0 | ⟨b, off, e4, hh⟩
  · omega
  · have := hh i hi
    rw [List.getD_eq_getElem?_getD, List.getElem?_eq_getElem hi] at this
    exact ⟨b, off, by rw [e1]; exact e4, World.block_lt_of_cell? _ _ this, this⟩
end Go.Proofs.YthdkbjbhjfiaiaaGreatDoor.ytd

namespace Go.Proofs.YthdkbjbhjfiaiaaGreatDoor.ytf
open Go.RowKit Go.PlainAid Go.Shelf
open Go.Proofs.YthdkbjbhjfiaiaaGreatDoor.rc Go.Proofs.YthdkbjbhjfiaiaaGreatDoor.ta Go.Proofs.YthdkbjbhjfiaiaaGreatDoor.tb Go.Proofs.YthdkbjbhjfiaiaaGreatDoor.tc Go.Proofs.YthdkbjbhjfiaiaaGreatDoor.tj Go.Proofs.YthdkbjbhjfiaiaaGreatDoor.wa Go.Proofs.YthdkbjbhjfiaiaaGreatDoor.n1 Go.Proofs.YthdkbjbhjfiaiaaGreatDoor.n3 Go.Proofs.YthdkbjbhjfiaiaaGreatDoor.o3 Go.Proofs.YthdkbjbhjfiaiaaGreatDoor.vc Go.Proofs.YthdkbjbhjfiaiaaGreatDoor.vd Go.Proofs.YthdkbjbhjfiaiaaGreatDoor.yc Go.Proofs.YthdkbjbhjfiaiaaGreatDoor.u1 Go.Proofs.YthdkbjbhjfiaiaaGreatDoor.w1 Go.Proofs.YthdkbjbhjfiaiaaGreatDoor.yta Go.Proofs.YthdkbjbhjfiaiaaGreatDoor.ytb Go.Proofs.YthdkbjbhjfiaiaaGreatDoor.ytc Go.Proofs.YthdkbjbhjfiaiaaGreatDoor.ytd
set_option linter.unusedVariables false
set_option maxRecDepth 4000

-- a row of texts at a place
def AtS (w : World) (g : Nat) (r : List ByteArray) : Prop := g < w.heap.size ∧ ∀ i p, r[i]? = some p → w.cell? ⟨g, i, none⟩ = some (.string p)
theorem AtS.later {w w' : World} {g : Nat} {r : List ByteArray} (h : AtS w g r) (b : Below w.heap.size w w') : AtS w' g r :=
  ⟨Nat.lt_of_lt_of_le h.1 b.size, fun i p hi => (b.cell (p := ⟨g, i, none⟩) h.1).trans (h.2 i p hi)⟩
theorem AtS.reads {w : World} {g cap : Nat} {r s : List ByteArray} (h : AtS w g (r ++ s)) : Reads w (.slice (some ⟨g, 0, none⟩) r.length cap) r := by
  refine ⟨_, cap, rfl, .inr ⟨g, 0, rfl, fun i hi => ?_⟩⟩
  rw [Nat.zero_add, List.getD_eq_getElem?_getD, List.getElem?_eq_getElem hi]
  exact h.2 i _ (by rw [List.getElem?_append_left hi, List.getElem?_eq_getElem hi]; rfl)
theorem AtS.last {w : World} {g : Nat} {r : List ByteArray} {x : ByteArray} (h : AtS w g (r ++ [x])) : w.cell? ⟨g, r.length, none⟩ = some (.string x) :=
  h.2 r.length x (by rw [List.getElem?_append_right (Nat.le_refl _), Nat.sub_self]; rfl)
theorem AtS.set {w : World} {g : Nat} {k : ByteArray} {r : List ByteArray} (h : AtS w g (k :: r)) (x : ByteArray) : AtS (w.setCell ⟨g, 0, none⟩ (.string x)) g (x :: r) := by
  refine ⟨by simpa [World.setCell] using h.1, fun i p hi => ?_⟩
  cases i with
  | zero =>
    simp at hi
    subst hi
    exact World.cell?_setCell_same _ _ _ (h.2 0 k rfl)
  | succ i =>
    have h0 := h.2 (i + 1) p (by simpa using hi)
    exact (World.cell?_setCell_other _ _ _ _ (by intro e; injection e with _ e2 _; omega)).trans h0
theorem own_ats {w : World} {B m : Nat} {v : Value} {xs : List ByteArray} (h : w.ownsRow B 9 1 v m (xs.map Value.string)) (hl : xs.length = m) (h0 : 0 < m) : ∃ g cap, v = .slice (some ⟨g, 0, none⟩) m cap ∧ m ≤ cap ∧ B ≤ g ∧ (∀ j, w.frozen? ⟨g, j, none⟩ = false) ∧ AtS w g xs := by
  rcases h.2 with ⟨_, e⟩ | ⟨g, cap, cur, rfl, h2, h3, h4, h5, h6, h7⟩
  · omega
  · refine ⟨g, cap, rfl, h4, h2, fun j => frozen_of_row _ _ _ _ _ h3, (Array.getElem?_eq_some_iff.1 h3).1, fun i p hi => ?_⟩
    have hil := (List.getElem?_eq_some_iff.1 hi).1
    have hh : (cur.toList.take (m * 1))[i]? = some (.string p) := by
      rw [h7, List.getElem?_map, hi]; rfl
    rw [List.getElem?_take_of_lt (by omega)] at hh
    rw [cell_of_row _ _ _ _ _ _ h3]
    simpa using hh
theorem new_one (W : World) (a : Value) (t : TypeId) : ∀ (j : Nat) (u : Value), [a][j]? = some u → (W.alloc (.cells #[a] t)).cell? (Addr.add ⟨W.heap.size, 0, none⟩ j) = some u := by
  intro j y h
  have hb : (W.alloc (.cells #[a] t)).heap[W.heap.size]? = some (.cells #[a] t (0, 0)) := heap_alloc_new W _
  have e : (Addr.add ⟨W.heap.size, 0, none⟩ j) = ⟨W.heap.size, j, none⟩ := by simp [Addr.add]; omega
  rw [e, cell_of_row _ _ j _ _ _ hb]
  simpa using h
set_option maxHeartbeats 1600000 in
theorem textsY (a a' : Option Addr) (c c' : Nat) (l : List ByteArray) (w : World) (ha : Reads w (.slice a l.length c) l) (hb : Reads w (.slice a' l.length c') l) (hz : l.length ≤ 1000000000) :
    Calls Tryz.prog 26 #[.slice a l.length c, .slice a' l.length c'] w fun e w' => e = .returned (.bool true) ∧ Below w.heap.size w w' := by
  have HA : Hid (∀ k (h : k < l.length), _) := fun k h => rd_at ha k h
  have HB2 : Hid (∀ k (h : k < l.length), _) := fun k h => rd_at hb k h
  clear ha hb
  obtain ⟨n, HN⟩ : ∃ n, Hid (l.length = n) := ⟨_, rfl⟩
  have hzn : n ≤ 1000000000 := by rw [← HN.out]; exact hz
  rw [HN.out]
  clear hz
  have hnn : ((n : Int) == (n : Int)) = true := beq_iff_eq.2 rfl
  go_enter Tryz.func26, Tryz.ntmps26
  go_wp2
  go_loopw [5] (fun i wr => ∃ k : Nat, k ≤ n ∧ i = .int .i64 k ∧ Hid (Below w.heap.size w wr)) (fun i _ => (n - intOf i).toNat)
  case atStart => exact ⟨0, by omega, rfl, Below.refl _ _⟩
  case round =>
    obtain ⟨k, hk, rfl, HB⟩ := hrel
    by_cases hlt : k < n
    · have hlt' : (k : Int) < n := by omega
      have hkl : k < l.length := by rw [HN.out]; exact hlt
      obtain ⟨b, off, rfl, hbw, q1⟩ := HA.out k hkl
      obtain ⟨b', off', rfl, hbw', r1⟩ := HB2.out k hkl
      obtain ⟨x, HX⟩ : ∃ x, Hid (l[k]'hkl = x) := ⟨_, rfl⟩
      rw [HX.out] at q1 r1
      have c1 := (HB.out.cell (p := ⟨b, off + k, none⟩) hbw).trans q1
      have d1 := (HB.out.cell (p := ⟨b', off' + k, none⟩) hbw').trans r1
      have KN : Hid (∀ n, Below w.heap.size w (wr.drewN n)) := fun n => Go.Proofs.YthdkbjbhjfiaiaaGreatDoor.tj.below_dN HB.out n
      clear q1 r1 HX
      go_wp2_with fail
      go_quiet (fail)
      go_wp2
      go_roundw
      case rel => exact ⟨k + 1, by omega, by go_num, KN.out _⟩
      case measure => simp [intOf]; omega
    · have hlt' : ¬ (k : Int) < n := by omega
      go_wp2
      go_ret
      exact ⟨rfl, HB.out⟩
end Go.Proofs.YthdkbjbhjfiaiaaGreatDoor.ytf

namespace Go.Proofs.YthdkbjbhjfiaiaaGreatDoor.yte
open Go.RowKit Go.PlainAid Go.Shelf
open Go.Proofs.YthdkbjbhjfiaiaaGreatDoor.rc Go.Proofs.YthdkbjbhjfiaiaaGreatDoor.ta Go.Proofs.YthdkbjbhjfiaiaaGreatDoor.tb Go.Proofs.YthdkbjbhjfiaiaaGreatDoor.tc Go.Proofs.YthdkbjbhjfiaiaaGreatDoor.tj Go.Proofs.YthdkbjbhjfiaiaaGreatDoor.tp Go.Proofs.YthdkbjbhjfiaiaaGreatDoor.wa Go.Proofs.YthdkbjbhjfiaiaaGreatDoor.wc Go.Proofs.YthdkbjbhjfiaiaaGreatDoor.n3 Go.Proofs.YthdkbjbhjfiaiaaGreatDoor.o3 Go.Proofs.YthdkbjbhjfiaiaaGreatDoor.o8 Go.Proofs.YthdkbjbhjfiaiaaGreatDoor.q2 Go.Proofs.YthdkbjbhjfiaiaaGreatDoor.vc Go.Proofs.YthdkbjbhjfiaiaaGreatDoor.vd Go.Proofs.YthdkbjbhjfiaiaaGreatDoor.yc Go.Proofs.YthdkbjbhjfiaiaaGreatDoor.u1 Go.Proofs.YthdkbjbhjfiaiaaGreatDoor.w1 Go.Proofs.YthdkbjbhjfiaiaaGreatDoor.w3 Go.Proofs.YthdkbjbhjfiaiaaGreatDoor.yta Go.Proofs.YthdkbjbhjfiaiaaGreatDoor.ytb Go.Proofs.YthdkbjbhjfiaiaaGreatDoor.ytc Go.Proofs.YthdkbjbhjfiaiaaGreatDoor.ytd
set_option linter.unusedVariables false
set_option maxRecDepth 4000

set_option maxHeartbeats 6400000 in
theorem textD (o : ByteArray) (n : Int) (r : ByteArray) (ext : List ByteArray) (a : Option Addr) (c : Nat) (w : World) (hn : I64 n) (zo : o.size ≤ 2000000) (zr : r.size ≤ 2000000) (hr : Reads w (.slice a ext.length c) ext) (hz : tk ext ext.length + ext.length ≤ 2000000) :
    Calls Tryz.prog 18 #[.agg #[.string o, .int .i64 n, .string r, .slice a ext.length c]] w fun e w' => e = .returned (txV o n r ext) ∧ Below w.heap.size w w' := by
  have HRD : Hid (Reads w (.slice a ext.length c) ext) := hr
  have C1 : Hid (∀ w, Calls _ _ _ _ _) := fun w => rName o (by omega) w
  have hsx : ∀ x ∈ ext, x.size ≤ 140737488355328 := fun x hx => by
    obtain ⟨i, hi, rfl⟩ := List.getElem_of_mem hx
    have h1 := tk_mono ext (show i + 1 ≤ ext.length by omega)
    have h2 : tk ext (i + 1) = tk ext i + (ext.getD i ByteArray.empty).size := rfl
    rw [List.getD_eq_getElem?_getD, List.getElem?_eq_getElem hi] at h2
    simp only [Option.getD_some] at h2
    omega
  have HSX : Hid _ := hsx
  obtain ⟨m, HM⟩ : ∃ m, Hid (ext.length = m) := ⟨_, rfl⟩
  have hzm : m ≤ 2000000 := by rw [← HM.out]; omega
  obtain ⟨W, HW⟩ : ∃ W, Hid (w.alloc (.cells #[.string o, .int .i64 n, .string r, .slice a ext.length c] 30) = W) := ⟨_, rfl⟩
  have BW : Hid (Below w.heap.size w W) := by rw [← HW.out]; exact (Below.refl _ _).alloc (Nat.le_refl _) _
  have zW : w.heap.size + 1 ≤ W.heap.size := by rw [← HW.out]; simp
  have SX : Hid (∀ w', Below (w.heap.size + 1) W w' → w'.cell? ⟨w.heap.size, 0, none⟩ = some (.string o) ∧ w'.cell? ⟨w.heap.size, 1, none⟩ = some (.int .i64 n) ∧ w'.cell? ⟨w.heap.size, 2, none⟩ = some (.string r) ∧ w'.cell? ⟨w.heap.size, 3, none⟩ = some (.slice a ext.length c)) := by
    rw [← HW.out]; exact fun w' h => box4 w w' _ _ _ _ _ h
  have DW : Hid (∀ w', Below (w.heap.size + 1) W w' → Below w.heap.size w w') := fun w' h => BW.out.trans (h.mono (by omega))
  obtain ⟨E, HE⟩ : ∃ E, Hid (txE o n r ext = E) := ⟨_, rfl⟩
  obtain ⟨X, HXX⟩ : ∃ X, Hid (txT o n r ext = X) := ⟨_, rfl⟩
  have HX0 : Hid (E ≠ 0 → X = ByteArray.empty) := fun h => by rw [← HXX.out]; unfold txT; rw [HE.out, if_neg h]
  have HX1 : Hid (E = 0 → X = txt o n r ext) := fun h => by rw [← HXX.out]; unfold txT; rw [HE.out, if_pos h]
  have HU := HE.out
  unfold txE at HU
  have HV : Hid (txV o n r ext = .tuple #[.string X, .int .i64 E]) := by show _ = _; unfold txV; rw [HXX.out, HE.out]
  rw [HV.out]
  obtain ⟨p0, p1, p2, p3⟩ := SX.out W (Below.refl _ _)
  obtain ⟨p, HPP⟩ : ∃ p, Hid (w.heap.size = p) := ⟨_, rfl⟩
  have FIN : Hid (∀ w', Below (p + 1) W w' → Below w.heap.size w w') := fun w' h => DW.out w' (by rw [HPP.out]; exact h)
  have HPW : Hid (p + 1 ≤ W.heap.size) := by rw [← HPP.out]; exact zW
  rw [HPP.out] at p0 p1 p2 p3 SX
  rw [HM.out] at p3 SX ⊢
  have TOP : Hid (w.alloc (.cells #[.string o, .int .i64 n, .string r, .slice a m c] 30) = W) := by rw [← HM.out]; exact HW.out
  by_cases hnm : nm o = false
  · rw [if_pos hnm] at HU
    have HEE : Hid (E = 203) := HU.symm
    have HXE : Hid (X = ByteArray.empty) := HX0.out (by rw [HEE.out]; decide)
    rw [hnm] at C1
    clear HU hnm hr hsx zW
    go_enter Tryz.func18, Tryz.ntmps18
    go_wp2_with fail
    rw [HPP.out, TOP.out]
    go_wp2_with (go_at_call 37; refine (C1.out _).mono ?_; rintro e wz ⟨rfl, hz⟩; rw [hz]; clear hz wz)
    go_ret2
    exact ⟨by rw [HEE.out, HXE.out]; rfl, BW.out⟩
  · rw [if_neg hnm] at HU
    have hnt : nm o = true := by simpa using hnm
    have HNT : Hid (nm o = true) := hnt
    rw [hnt] at C1
    clear hnm hnt
    by_cases hc1 : n < 0 ∨ 4611686018427387904 < n
    · rw [if_pos hc1] at HU
      have HEE : Hid (E = 10) := HU.symm
      have HXE : Hid (X = ByteArray.empty) := HX0.out (by rw [HEE.out]; decide)
      have hcs : n < 0 ∨ (¬ n < 0 ∧ n > 4611686018427387904) := by omega
      clear HU hc1 hr hsx zW
      rcases hcs with h1 | ⟨h1, h2⟩
      · go_enter Tryz.func18, Tryz.ntmps18
        go_wp2_with fail
        rw [HPP.out, TOP.out]
        go_wp2_with (go_at_call 37; refine (C1.out _).mono ?_; rintro e wz ⟨rfl, hz⟩; rw [hz]; clear hz wz)
        go_ret2
        exact ⟨by rw [HEE.out, HXE.out]; rfl, BW.out⟩
      · go_enter Tryz.func18, Tryz.ntmps18
        go_wp2_with fail
        rw [HPP.out, TOP.out]
        go_wp2_with (go_at_call 37; refine (C1.out _).mono ?_; rintro e wz ⟨rfl, hz⟩; rw [hz]; clear hz wz)
        go_ret2
        exact ⟨by rw [HEE.out, HXE.out]; rfl, BW.out⟩
    · rw [if_neg hc1] at HU
      have h1 : ¬ n < 0 := by omega
      have h2 : ¬ n > 4611686018427387904 := by omega
      clear hc1
      by_cases hc2 : r.size < 1 ∨ 32 < r.size
      · rw [if_pos hc2] at HU
        have HEE : Hid (E = 72) := HU.symm
        have HXE : Hid (X = ByteArray.empty) := HX0.out (by rw [HEE.out]; decide)
        have hcs : (r.size : Int) < 1 ∨ (¬ (r.size : Int) < 1 ∧ (r.size : Int) > 32) := by omega
        clear HU hc2 hr hsx zW
        rcases hcs with h3 | ⟨h3, h4⟩
        · go_enter Tryz.func18, Tryz.ntmps18
          go_wp2_with fail
          rw [HPP.out, TOP.out]
          go_wp2_with (go_at_call 37; refine (C1.out _).mono ?_; rintro e wz ⟨rfl, hz⟩; rw [hz]; clear hz wz)
          go_ret2
          exact ⟨by rw [HEE.out, HXE.out]; rfl, BW.out⟩
        · go_enter Tryz.func18, Tryz.ntmps18
          go_wp2_with fail
          rw [HPP.out, TOP.out]
          go_wp2_with (go_at_call 37; refine (C1.out _).mono ?_; rintro e wz ⟨rfl, hz⟩; rw [hz]; clear hz wz)
          go_ret2
          exact ⟨by rw [HEE.out, HXE.out]; rfl, BW.out⟩
      · rw [if_neg hc2] at HU
        have h3 : ¬ (r.size : Int) < 1 := by omega
        have h4 : ¬ (r.size : Int) > 32 := by omega
        clear hc2
        have HUU : Hid ((if ext.any nolB = true then (43 : Int) else 0) = E) := HU
        have zd := dec_size n hn
        have C3 : Hid (∀ w, Calls _ _ _ _ _) := fun w => rDec (n.natAbs + 1) n hn (by omega) w
        have C4 : Hid (∀ w, Calls _ _ _ _ _) := fun w => rB64 r (by omega) w
        have zb : (str (b64L (bs r))).size ≤ 100 := by rw [str_size, b64L_length, bs_length]; omega
        have HTX : Hid (txt o n r ext = tqB o (decS n) (str (b64L (bs r))) ++ flN ext) := txt_tq o n r ext
        obtain ⟨d, HD⟩ : ∃ d, Hid (decS n = d) := ⟨_, rfl⟩
        obtain ⟨q, HQ⟩ : ∃ q, Hid (str (b64L (bs r)) = q) := ⟨_, rfl⟩
        rw [HD.out] at C3 zd HTX
        rw [HQ.out] at C4 zb HTX
        obtain ⟨Z, HZ⟩ : ∃ Z, Hid (tqB o d q = Z) := ⟨_, rfl⟩
        have hq : o ++ ⟨#[10]⟩ ++ d ++ ⟨#[10]⟩ ++ q ++ ⟨#[10]⟩ = Z := HZ.out
        have n10 : (⟨#[10]⟩ : ByteArray).size = 1 := rfl
        have zZ : Z.size ≤ 2000200 := by
          rw [← hq]
          simp only [ByteArray.size_append, n10]
          omega
        rw [HZ.out] at HTX
        have HFS : Hid (∀ k, k ≤ m → (flN (ext.take k)).size ≤ 2000000) := fun k hk => by
          rw [fl_size]
          have h5 := tk_sum ext k (by rw [HM.out]; exact hk)
          have h6 := tk_mono ext (show k ≤ ext.length by rw [HM.out]; exact hk)
          rw [List.length_take]
          omega
        obtain ⟨v0, w0, hcv, ho0, hb0⟩ := ofString W.drew Z (by omega)
        have D0 : Hid (Below (p + 1) W W.drew) := Go.Proofs.YthdkbjbhjfiaiaaGreatDoor.tj.below_dN (Below.refl _ _) 1
        have HO0 : Hid (OwB w0 W.heap.size v0 Z) := ho0
        have HB0 : Hid (Below (p + 1) W w0) := D0.out.trans (hb0.mono HPW.out)
        have SY : Hid (∀ w', Below (p + 1) W w' → w'.cell? ⟨p, 0, none⟩ = some (.string o) ∧ w'.cell? ⟨p, 1, none⟩ = some (.int .i64 n) ∧ w'.cell? ⟨p, 2, none⟩ = some (.string r)) := fun w' h => ⟨(SX.out w' h).1, (SX.out w' h).2.1, (SX.out w' h).2.2.1⟩
        clear HU hr hsx zW ho0 hb0
        go_enter Tryz.func18, Tryz.ntmps18
        go_wp2_with fail
        rw [HPP.out, TOP.out]
        go_wp2_with (go_at_call 37; refine (C1.out _).mono ?_; rintro e wz ⟨rfl, hz⟩; rw [hz]; clear hz wz)
        go_cut [5] (fun cc wx => ∃ gg cap, cc = .slice (some ⟨gg, 0, none⟩) Z.size cap ∧ Hid (OwB wx W.heap.size (.slice (some ⟨gg, 0, none⟩) Z.size cap) Z ∧ Below (p + 1) W wx))
        case first =>
          go_region_held_law (fun w' => w'.cell? ⟨p, 0, none⟩ = some (.string o) ∧ w'.cell? ⟨p, 1, none⟩ = some (.int .i64 n) ∧ w'.cell? ⟨p, 2, none⟩ = some (.string r)) (first | exact SY.out _ D0.out | exact SY.out _ HB0.out) ((first | (go_at_call 34; refine (C3.out _).mono ?_; rintro e wz ⟨rfl, hz⟩; rw [hz]; clear hz wz) | (go_at_call 36; refine (C4.out _).mono ?_; rintro e wz ⟨rfl, hz⟩; rw [hz]; clear hz wz)))
          all_goals (
            go_wp2
            go_meet
            obtain ⟨gg, cap, hv0⟩ := HO0.out.form
            exact ⟨gg, cap, hv0, by rw [← hv0]; exact HO0.out, HB0.out⟩)
        case rest =>
          obtain ⟨gg, cap, rfl, HC5⟩ := hcut
          have HO5 : Hid (OwB wc W.heap.size (.slice (some ⟨gg, 0, none⟩) Z.size cap) Z) := HC5.out.1
          have HB5 : Hid (Below (p + 1) W wc) := HC5.out.2
          have SX3 : Hid _ := SX.out
          have HFW : Hid (∀ w', Below (p + 1) W w' → W.heap.size ≤ w'.heap.size) := fun w' h => h.size
          clear hq hcv p0 p1 p2 p3 SX HO0 HB0 C3 C4 SY
          go_wp2
          go_loopw [5, 6] (fun bv iv wr => ∃ k : Nat, k ≤ m ∧ iv = .int .i64 k ∧ Hid (OwB wr W.heap.size bv (Z ++ flN (ext.take k)) ∧ Below (p + 1) W wr ∧ (ext.take k).any nolB = false)) (fun _ iv _ => (m - intOf iv).toNat)
          case atStart => exact ⟨0, by omega, rfl, by rw [List.take_zero, flN, ByteArray.append_empty]; exact HO5.out, HB5.out, rfl⟩
          case round =>
            obtain ⟨k, hk, rfl, HH⟩ := hrel
            obtain ⟨g1, cap1, hv1⟩ := HH.out.1.form
            subst hv1
            obtain ⟨S, HS⟩ : ∃ S, Hid (Z ++ flN (ext.take k) = S) := ⟨_, rfl⟩
            have zS : S.size ≤ 4000200 := by rw [← HS.out, ByteArray.size_append]; have := HFS.out k hk; omega
            have HO : Hid (OwB wr W.heap.size (.slice (some ⟨g1, 0, none⟩) S.size cap1) S) := by have := HH.out.1; rw [HS.out] at this; exact this
            have HB : Hid (Below (p + 1) W wr) := HH.out.2.1
            have HG : Hid ((ext.take k).any nolB = false) := HH.out.2.2
            rw [HS.out]
            obtain ⟨p0, p1, p2, p3⟩ := SX3.out wr HB.out
            clear HH p0 p1 p2
            by_cases hlt : k < m
            · have hlt' : (k : Int) < m := by omega
              have hkl : k < ext.length := by rw [HM.out]; exact hlt
              obtain ⟨x, HX⟩ : ∃ x, Hid (ext[k]'hkl = x) := ⟨_, rfl⟩
              have zx : x.size ≤ 2000000 := by
                have h1 := tk_mono ext (show k + 1 ≤ ext.length by omega)
                have h2 : tk ext (k + 1) = tk ext k + (ext.getD k ByteArray.empty).size := rfl
                rw [List.getD_eq_getElem?_getD, List.getElem?_eq_getElem hkl, HX.out] at h2
                simp only [Option.getD_some] at h2
                omega
              obtain ⟨b, off, ha, hbw, hc⟩ := rd_at HRD.out k hkl
              rw [HX.out] at hc
              have HCL : Hid (∀ w', Below (p + 1) W w' → w'.cell? ⟨b, off + k, none⟩ = some (.string x)) := fun w' h => ((FIN.out w' h).cell (p := ⟨b, off + k, none⟩) hbw).trans hc
              subst ha
              have C5 : Hid (∀ w, Calls _ _ _ _ _) := fun w => plainD x false (by omega) w
              have C6 : Hid (∀ w, Calls _ _ _ _ _) := fun w => wholeD x (by omega) w
              have HND : Hid (nolB x = (decide (x.size = 0) || (!plB x false || !Go.Proofs.YthdkbjbhjfiaiaaGreatDoor.n1.whole x))) := nol_doc x
              have HTN : Hid ((ext.take (k + 1)).any nolB = nolB x) := by
                show _ = _
                rw [List.take_succ_eq_append_getElem hkl, List.any_append, HG.out, HX.out]
                simp
              have HBAD : Hid (nolB x = true → E = 43 ∧ X = ByteArray.empty) := fun h => by
                have ha : ext.any nolB = true := by
                  rw [List.any_eq_true]
                  exact ⟨x, by rw [← HX.out]; exact List.getElem_mem hkl, h⟩
                have he := HUU.out
                rw [if_pos ha] at he
                exact ⟨he.symm, HX0.out (by rw [← he]; decide)⟩
              have HFN : Hid (Z ++ flN (ext.take (k + 1)) = S ++ x ++ nlB) := by
                show _ = _
                rw [fl_take ext k hkl, HX.out, ← HS.out]
                simp only [ByteArray.append_assoc]
              have hc0 := HCL.out wr HB.out
              generalize plB x false = pl at *
              generalize Go.Proofs.YthdkbjbhjfiaiaaGreatDoor.n1.whole x = wh at *
              clear hc HX
              go_wp2_with fail
              refine (C5.out _).mono ?_
              rintro e wz ⟨rfl, hz⟩
              rw [hz]
              clear hz wz
              go_wp2_with fail
              refine (C6.out _).mono ?_
              rintro e w1 ⟨rfl, hb1⟩
              have B1 : Hid (Below (p + 1) W w1) := HB.out.trans (hb1.mono (Nat.le_trans HPW.out HB.out.size))
              have HO1 : Hid (OwB w1 W.heap.size (.slice (some ⟨g1, 0, none⟩) S.size cap1) S) := HO.out.later hb1
              clear hb1 p3 hc0
              obtain ⟨p0, p1, p2, p3⟩ := SX3.out w1 B1.out
              have hc0 := HCL.out w1 B1.out
              have hbs := HFW.out w1 B1.out
              clear p0 p1 p2
              by_cases h0 : x.size = 0
              · obtain ⟨e1, e2⟩ := yes_empty x h0
                obtain ⟨hE, hX⟩ := HBAD.out (by rw [HND.out, decide_eq_true h0]; rfl)
                clear h0
                go_wp2
                go_ret2
                exact ⟨by first | rfl | (rw [hE, hX]; rfl), FIN.out _ B1.out⟩
              · obtain ⟨e1, e2⟩ := ne_empty x h0
                rw [decide_eq_false h0] at HND
                cases pl
                · obtain ⟨hE, hX⟩ := HBAD.out (by rw [HND.out]; rfl)
                  clear h0
                  go_wp2
                  go_ret2
                  exact ⟨by first | rfl | (rw [hE, hX]; rfl), FIN.out _ B1.out⟩
                · cases wh
                  · obtain ⟨hE, hX⟩ := HBAD.out (by rw [HND.out]; rfl)
                    clear h0
                    go_wp2
                    go_ret2
                    exact ⟨by first | rfl | (rw [hE, hX]; rfl), FIN.out _ B1.out⟩
                  · have hgood : nolB x = false := by rw [HND.out]; rfl
                    rw [hgood] at HTN
                    clear h0 hgood HND HBAD
                    go_upto_region 17 with (at_builtin; refine wpList_appB rfl (.tmp 79) (.tmp 84) rfl W.heap.size _ S x rfl HO1.out rfl (by omega) hbs ?_; intro v2 w2 ho2 hb2; obtain ⟨g2, cap2, hv2⟩ := ho2.form; rw [ByteArray.size_append] at hv2; subst hv2; have HO2 : Hid (OwB w2 W.heap.size (.slice (some ⟨g2, 0, none⟩) (S.size + x.size) cap2) (S ++ x)) := ho2; have B2 : Hid (Below (p + 1) W w2) := B1.out.trans (hb2.mono HPW.out); clear ho2 hb2)
                    have hbs2 := HFW.out w2 B2.out
                    have hzz : (S ++ x).size = S.size + x.size := ByteArray.size_append
                    obtain ⟨Y, HY⟩ : ∃ Y, Hid (S ++ x = Y) := ⟨_, rfl⟩
                    rw [HY.out] at HO2 hzz HFN
                    have HOM : Hid (OwnM (w2.alloc (.cells #[.int .u8 10] 5)) W.heap.size (.slice (some ⟨g2, 0, none⟩) (S.size + x.size) cap2) Y.size (bs Y)) := (own_to HO2.out).alloc _
                    have B2A : Hid (Below (p + 1) W (w2.alloc (.cells #[.int .u8 10] 5))) := B2.out.alloc (Nat.le_trans HPW.out B2.out.size) _
                    have hu10 : (w2.alloc (.cells #[.int .u8 10] 5)).cell? ⟨w2.heap.size, 0, none⟩ = some (.int .u8 10) := by rw [World.cell?_alloc_at _ _ _ _ rfl]; rfl
                    have HU10 : Hid _ := hu10
                    clear hu10 p3 hc0
                    go_wp2_with (at_builtin; refine append_mark rfl (.tmp 86) (.tmp 87) rfl W.heap.size (.slice (some ⟨g2, 0, none⟩) (S.size + x.size) cap2) Y.size (bs Y) rfl HOM.out ⟨w2.heap.size, 0, none⟩ 1 10 rfl HU10.out (by omega) (Nat.le_trans hbs2 (by simp)) ?_; intro v3 w3 ho3 hb3; have HO3 : Hid (OwB w3 W.heap.size v3 (Y ++ nlB)) := own_back ho3; have B3 : Hid (Below (p + 1) W w3) := B2A.out.trans (hb3.mono HPW.out); clear ho3 hb3)
                    go_roundw
                    case rel => exact ⟨k + 1, by omega, by first | rfl | go_num, by rw [HFN.out]; exact HO3.out, B3.out, HTN.out⟩
                    case measure => simp [intOf]; omega
            · have hlt' : ¬ (k : Int) < m := by omega
              have hkm : k = ext.length := by rw [HM.out]; omega
              have hE : E = 0 := by
                have h5 := HG.out
                rw [hkm, List.take_length] at h5
                have he := HUU.out
                rw [if_neg (by rw [h5]; decide)] at he
                exact he.symm
              have hX : X = S := by
                rw [HX1.out hE, HTX.out, ← HS.out, hkm, List.take_length]
              have hcv := toString wr W.heap.size _ S HO.out
              clear hkm
              go_wp2
              go_ret2
              exact ⟨by first | rfl | (rw [hE, hX]; rfl), FIN.out _ HB.out⟩
end Go.Proofs.YthdkbjbhjfiaiaaGreatDoor.yte
