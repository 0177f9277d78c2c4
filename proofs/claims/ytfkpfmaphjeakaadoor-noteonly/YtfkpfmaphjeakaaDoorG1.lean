import Derived.Test.YtfkpfmaphjeakaaDoorH1
import Derived.Deep.MidRow
import Derived.Test.YtfkpfmaphjeakaaDoorJ2
import Derived.Test.YtfkpfmaphjeakaaDoorH2
import Derived.Deep.RegionHeld3
import Derived.Deep.DeepCutAuto
import Derived.Deep.AppendLies
import Derived.Test.YtfkpfmaphjeakaaDoorL2
import Derived.Maps.AppendAt
namespace Go.Proofs.YtfkpfmaphjeakaaDoor.ka
open Go.RowKit Go.PlainAid
open Go.Proofs.YtfkpfmaphjeakaaDoor.ca Go.Proofs.YtfkpfmaphjeakaaDoor.cp
set_option linter.unusedVariables false
set_option maxRecDepth 4000

-- a list of texts, wherever it lies
def ReadsT (w : World) (v : Value) (xs : List ByteArray) : Prop :=
  ∃ a cap, v = .slice a xs.length cap ∧ xs.length ≤ cap ∧ (xs.length = 0 ∨ ∃ b off, a = some ⟨b, off, none⟩ ∧ ∀ i, i < xs.length → w.cell? ⟨b, off + i, none⟩ = some (.string (xs.getD i ByteArray.empty)))
theorem ReadsT.later {w w' : World} {v : Value} {xs : List ByteArray} (h : ReadsT w v xs) (hb : Below w.heap.size w w') : ReadsT w' v xs := by
  obtain ⟨a, cap, rfl, hc, h0 | ⟨b, off, rfl, hh⟩⟩ := h
  · exact ⟨a, cap, rfl, hc, .inl h0⟩
  · refine ⟨_, cap, rfl, hc, .inr ⟨b, off, rfl, fun i hi => ?_⟩⟩
    have := hh i hi
    exact (hb.cell (p := ⟨b, off + i, none⟩) (World.block_lt_of_cell? _ _ this)).trans this
theorem ReadsT.front {w : World} {b off n cap k : Nat} {xs : List ByteArray} (h : ReadsT w (.slice (some ⟨b, off, none⟩) n cap) xs) (hk : k ≤ xs.length) : ReadsT w (.slice (some ⟨b, off, none⟩) k cap) (xs.take k) := by
  obtain ⟨a, cap', e, hc, hh⟩ := h
  injection e with e1 e2 e3
  subst e1 e3
  have hl : (xs.take k).length = k := by rw [List.length_take]; omega
  refine ⟨_, cap, by rw [hl], by omega, ?_⟩
  rcases hh with h0 | ⟨b', off', e4, hh⟩
  · left; omega
  · injection e4 with e4
    injection e4 with e5 e6
    subst e5 e6
    refine .inr ⟨b, off, rfl, fun i hi => ?_⟩
    rw [hl] at hi
    rw [hh i (by omega), List.getD_eq_getElem?_getD, List.getD_eq_getElem?_getD, List.getElem?_take, if_pos hi]
theorem ReadsT.back {w : World} {b off n cap k : Nat} {xs : List ByteArray} (h : ReadsT w (.slice (some ⟨b, off, none⟩) n cap) xs) (hk : k ≤ xs.length) : ReadsT w (.slice (some ⟨b, off + k, none⟩) (n - k) (cap - k)) (xs.drop k) := by
  obtain ⟨a, cap', e, hc, hh⟩ := h
  injection e with e1 e2 e3
  subst e1 e2 e3
  have hl : (xs.drop k).length = xs.length - k := List.length_drop
  refine ⟨_, cap - k, by rw [hl], by omega, ?_⟩
  rcases hh with h0 | ⟨b', off', e4, hh⟩
  · left; omega
  · injection e4 with e4
    injection e4 with e5 e6
    subst e5 e6
    refine .inr ⟨b, off + k, rfl, fun i hi => ?_⟩
    rw [hl] at hi
    rw [Nat.add_assoc, hh (k + i) (by omega), List.getD_eq_getElem?_getD, List.getD_eq_getElem?_getD, List.getElem?_drop]
theorem ReadsT.mid {w : World} {b off n cap f k : Nat} {xs : List ByteArray} (h : ReadsT w (.slice (some ⟨b, off, none⟩) n cap) xs) (hk : f + k ≤ xs.length) : ReadsT w (.slice (some ⟨b, off + f, none⟩) k (cap - f)) ((xs.drop f).take k) := by
  have h1 := h.back (k := f) (by omega)
  exact ReadsT.front (n := n - f) h1 (by rw [List.length_drop]; omega)
theorem own_readsT {w : World} {B n : Nat} {v : Value} {xs : List ByteArray} (h : w.ownsRow B 9 1 v n (xs.map Value.string)) : ReadsT w v xs := by
  have hn : xs.length = n := by have := h.1; simpa using this
  subst hn
  rcases h.2 with ⟨rfl, h0⟩ | ⟨g, cap, cur, rfl, _, hg, hc, _⟩
  · exact ⟨none, 0, by rw [h0], by omega, .inl h0⟩
  · refine ⟨_, cap, rfl, hc, .inr ⟨g, 0, rfl, fun i hi => ?_⟩⟩
    rw [Nat.zero_add, h.cellAt i (by omega), List.getElem?_map, List.getElem?_eq_getElem hi, List.getD_eq_getElem?_getD, List.getElem?_eq_getElem hi]
    rfl
theorem hi9 : (Tryd.prog.info? 9).map (fun i => (i.zero, i.size, i.bytes)) = some (some (.string ByteArray.empty), 1, 16) := by kernel_rfl
theorem info_parts {t : TypeId} {z : Value} {n b : Nat} (h : (Tryd.prog.info? t).map (fun i => (i.zero, i.size, i.bytes)) = some (some z, n, b)) : ∃ i, Tryd.prog.info? t = some i ∧ i.zero = some z ∧ i.size = n ∧ i.bytes = b := by
  obtain ⟨i, hi, he⟩ := Option.map_eq_some_iff.1 h
  injection he with e1 e2
  injection e2 with e2 e3
  exact ⟨i, hi, e1, e2, e3⟩
theorem own_formS {w : World} {B e size n : Nat} {v : Value} {xs : List Value} (h : w.ownsRow B e size v n xs) : ∃ a c, v = .slice a n c := by
  rcases h.2 with ⟨rfl, rfl⟩ | ⟨g, cap, cur, rfl, _⟩
  · exact ⟨_, _, rfl⟩
  · exact ⟨_, _, rfl⟩
theorem new_text (W : World) (u : Value) (t : TypeId) : ∀ (j : Nat) (x : Value), [u][j]? = some x → (W.alloc (.cells #[u] t)).cell? (Addr.add ⟨W.heap.size, 0, none⟩ j) = some x := by
  intro j x hx
  rw [show (Addr.add ⟨W.heap.size, 0, none⟩ j) = ⟨W.heap.size, j, none⟩ by cases j <;> simp [Addr.add], World.cell?_alloc_at _ _ _ _ rfl]
  simpa using hx
theorem one_text (x : ByteArray) : ∀ u ∈ [Value.string x], u.oneCell' = true := by
  intro u hu
  simp only [List.mem_cons, List.not_mem_nil, or_false] at hu
  subst hu
  rfl
theorem own_first {w : World} {B g n cap : Nat} {ys : List ByteArray} {z : Value} (h : w.ownsRow B 9 1 (.slice (some ⟨g, 0, none⟩) (n + 1) cap) (n + 1) (ys.map Value.string ++ [z])) (hn : ys.length = n) : ReadsT w (.slice (some ⟨g, 0, none⟩) n cap) ys := by
  have hc : n + 1 ≤ cap := by
    rcases h.2 with ⟨e, _⟩ | ⟨g', cap', cur, e, _, _, hc, _⟩
    · cases e
    · injection e with _ _ e3; omega
  refine ⟨_, cap, by rw [hn], by omega, .inr ⟨g, 0, rfl, fun i hi => ?_⟩⟩
  rw [Nat.zero_add, h.cellAt i (by omega), List.getElem?_append_left (by rw [List.length_map]; exact hi), List.getElem?_map, List.getElem?_eq_getElem hi, List.getD_eq_getElem?_getD, List.getElem?_eq_getElem hi]
  rfl
theorem own_behind {w : World} {B g n cap : Nat} {ys : List ByteArray} {z : Value} (h : w.ownsRow B 9 1 (.slice (some ⟨g, 0, none⟩) (n + 1) cap) (n + 1) (ys.map Value.string ++ [z])) (hn : ys.length = n) : w.cell? ⟨g, n, none⟩ = some z := by
  rw [h.cellAt n (by omega), List.getElem?_append_right (by rw [List.length_map]; omega), List.length_map, hn, Nat.sub_self]
  rfl
theorem reads_news {w : World} {ad : Addr} {n cap : Nat} {xs : List ByteArray} (h : ReadsT w (.slice (some ad) n cap) xs) : ∀ (j : Nat) (u : Value), (xs.map Value.string)[j]? = some u → w.cell? (ad.add j) = some u := by
  intro j u hu
  have hj : j < xs.length := by have := (List.getElem?_eq_some_iff.1 hu).1; simpa using this
  obtain ⟨a', cap', e, _, h0 | ⟨b, off, e4, hc⟩⟩ := h
  · omega
  · injection e with e1 e2 e3
    rw [← e1] at e4
    obtain rfl := Option.some.inj e4
    rw [Addr.add_mid, hc j hj, ← hu, List.getElem?_map, List.getElem?_eq_getElem hj, List.getD_eq_getElem?_getD, List.getElem?_eq_getElem hj]
    rfl
end Go.Proofs.YtfkpfmaphjeakaaDoor.ka

namespace Go.Proofs.YtfkpfmaphjeakaaDoor.w1
open Go.RowKit Go.PlainAid
open Go.Proofs.YtfkpfmaphjeakaaDoor.mo Go.Proofs.YtfkpfmaphjeakaaDoor.nh Go.Proofs.YtfkpfmaphjeakaaDoor.ta Go.Proofs.YtfkpfmaphjeakaaDoor.tb Go.Proofs.YtfkpfmaphjeakaaDoor.tc Go.Proofs.YtfkpfmaphjeakaaDoor.tj Go.Proofs.YtfkpfmaphjeakaaDoor.n1 Go.Proofs.YtfkpfmaphjeakaaDoor.n3 Go.Proofs.YtfkpfmaphjeakaaDoor.n4 Go.Proofs.YtfkpfmaphjeakaaDoor.o1 Go.Proofs.YtfkpfmaphjeakaaDoor.o3 Go.Proofs.YtfkpfmaphjeakaaDoor.q1 Go.Proofs.YtfkpfmaphjeakaaDoor.q2 Go.Proofs.YtfkpfmaphjeakaaDoor.q3 Go.Proofs.YtfkpfmaphjeakaaDoor.q5 Go.Proofs.YtfkpfmaphjeakaaDoor.s1 Go.Proofs.YtfkpfmaphjeakaaDoor.s2 Go.Proofs.YtfkpfmaphjeakaaDoor.s3 Go.Proofs.YtfkpfmaphjeakaaDoor.t3 Go.Proofs.YtfkpfmaphjeakaaDoor.t5 Go.Proofs.YtfkpfmaphjeakaaDoor.v2 Go.Proofs.YtfkpfmaphjeakaaDoor.v4
open Go.Proofs.YtfkpfmaphjeakaaDoor.uc (pr)
set_option linter.unusedVariables false
set_option maxRecDepth 4000

-- a signature that is written is read
theorem no10_of {s : ByteArray} (h : ∀ x ∈ bs s, x ≠ 10) : no10 s := fun j hj => by
  rw [← bs_get s j hj]; exact h _ (List.getElem_mem _)
theorem nm_all {s : ByteArray} (h : nm s = true) : s.size ≠ 0 ∧ ∀ x ∈ bs s, 33 ≤ x ∧ x ≤ 126 := by
  unfold nm at h
  simp only [Bool.and_eq_true, decide_eq_true_eq] at h
  refine ⟨h.1.1, fun x hx => ?_⟩
  have := List.all_eq_true.1 h.2 x hx
  unfold ok1 pr at this
  simp only [Bool.and_eq_true, decide_eq_true_eq] at this
  exact this.1
theorem sg_no10 : ∀ v : Nat, v < 64 → sg A64 v ≠ 10 := by decide +kernel
theorem b64_no10 (l : List Int) (h : In 256 l) : ∀ x ∈ b64L l, x ≠ 10 := by
  intro x hx
  unfold b64L at hx
  rcases List.mem_append.1 hx with hx | hx
  · obtain ⟨v, hv, rfl⟩ := List.mem_map.1 (List.mem_of_mem_take hx)
    obtain ⟨h0, h1⟩ := sixes_full l h v hv
    obtain ⟨k, rfl⟩ := Int.eq_ofNat_of_zero_le h0
    exact sg_no10 k (by omega)
  · rw [List.eq_of_mem_replicate hx]; decide
def lnB (g : Sg) : ByteArray := DS ++ (g.name ++ (⟨#[32]⟩ ++ str (b64L (bs (g.id ++ g.mac)))))
theorem line_nl (g : Sg) : lineOf g = lnB g ++ nlB := by
  unfold lineOf lnB dash DS nlB
  simp only [ByteArray.append_assoc]
theorem bs_ds : bs DS = [226, 128, 148, 32] := by decide +kernel
theorem bs_sp : bs (⟨#[32]⟩ : ByteArray) = [32] := by decide +kernel
theorem bt_sp : bt (⟨#[32]⟩ : ByteArray) 0 = 32 := by decide +kernel
theorem sig_there {g : Sg} (f : Fine g) : sigP (lnB g) = some g ∧ no10 (lnB g) ∧ lnB g ≠ ByteArray.empty := by
  obtain ⟨n0, nA⟩ := nm_all f.nm
  have hz : DS.size = 4 := rfl
  have hs : (⟨#[32]⟩ : ByteArray).size = 1 := rfl
  have hin := bs_in (g.id ++ g.mac)
  have hb := bs_str (b64L (bs (g.id ++ g.mac))) (b64L_in _ hin)
  obtain ⟨ha, hc⟩ := b64_there _ hin
  refine ⟨?_, no10_of ?_, ?_⟩
  · have hfm := f.nm
    have hfi := f.id
    have hfc := f.mac
    generalize hcc : str (b64L (bs (g.id ++ g.mac))) = cc at *
    have ho : opn (lnB g) = true := by
      unfold opn lnB
      rw [ByteArray.extract_append_eq_left hz.symm]
      exact decide_eq_true rfl
    have hr : rst (lnB g) = g.name ++ (⟨#[32]⟩ ++ cc) := by
      unfold rst
      rw [if_pos ho]
      unfold lnB
      rw [hcc]
      exact ByteArray.extract_append_eq_right hz.symm (by rw [ByteArray.size_append])
    have hix : ix32 (g.name ++ (⟨#[32]⟩ ++ cc)) = some g.name.size := by
      refine ix_at _ _ (by rw [ByteArray.size_append, ByteArray.size_append, hs]; omega) ?_ (fun j hj => ?_)
      · have := bt_right g.name (⟨#[32]⟩ ++ cc) 0 (by rw [ByteArray.size_append, hs]; omega)
        rw [Nat.add_zero] at this
        rw [this, bt_left _ _ _ (by rw [hs]; omega), bt_sp]
      · rw [bt_left _ _ _ hj, ← bs_get _ j hj]
        have := nA _ (List.getElem_mem (by rw [bs_length]; exact hj))
        omega
    have e1 : (g.name ++ (⟨#[32]⟩ ++ cc)).extract 0 g.name.size = g.name := ByteArray.extract_append_eq_left rfl
    have e2 : (g.name ++ (⟨#[32]⟩ ++ cc)).extract (g.name.size + 1) (g.name ++ (⟨#[32]⟩ ++ cc)).size = cc := by
      rw [← ByteArray.append_assoc]
      exact ByteArray.extract_append_eq_right (by rw [ByteArray.size_append, hs]) (by rw [ByteArray.size_append])
    unfold sigP
    rw [if_pos ho, hr, hix]
    simp only
    rw [e1, e2]
    unfold sgOf
    rw [if_pos ⟨hfm, by rw [hb]; exact ha, by rw [hb, hc, bs_length, ByteArray.size_append, hfi, hfc]⟩, hb, hc, str_bs]
    have e3 : (g.id ++ g.mac).extract 0 4 = g.id := ByteArray.extract_append_eq_left hfi.symm
    have e4 : (g.id ++ g.mac).extract 4 36 = g.mac := ByteArray.extract_append_eq_right hfi.symm (by rw [hfi, hfc])
    rw [e3, e4]
  · intro x hx
    unfold lnB at hx
    rw [bs_two, bs_two, bs_two, hb, bs_ds, bs_sp] at hx
    rcases List.mem_append.1 hx with hx | hx
    · simp at hx; omega
    · rcases List.mem_append.1 hx with hx | hx
      · have := nA x hx; omega
      · rcases List.mem_append.1 hx with hx | hx
        · simp at hx; omega
        · exact b64_no10 _ hin x hx
  · intro e
    have := congrArg ByteArray.size e
    unfold lnB at this
    rw [ByteArray.size_append, hz] at this
    have h0 : ByteArray.empty.size = 0 := rfl
    omega
theorem lines_there : ∀ gs : List Sg, (∀ g ∈ gs, Fine g) → (gs.map lnB).map sigP = gs.map some ∧ flN (gs.map lnB) = flatB (gs.map lineOf) ∧ ∀ l ∈ gs.map lnB, no10 l ∧ l ≠ ByteArray.empty
  | [], _ => ⟨rfl, rfl, fun l h => by cases h⟩
  | g :: gs, h => by
    obtain ⟨h1, h2, h3⟩ := sig_there (h g (by simp))
    obtain ⟨i1, i2, i3⟩ := lines_there gs (fun x hx => h x (by simp [hx]))
    refine ⟨by rw [List.map_cons, List.map_cons, h1, i1]; rfl, by rw [List.map_cons, flN, i2, List.map_cons, flatB, line_nl], fun l hl => ?_⟩
    rw [List.map_cons] at hl
    rcases List.mem_cons.1 hl with rfl | hl
    · exact ⟨h2, h3⟩
    · exact i3 l hl
theorem fl_inj {a b : List ByteArray} (ha : ∀ l ∈ a, no10 l) (hb : ∀ l ∈ b, no10 l) (h : flN a = flN b) : a = b := by
  have e := lines_flN a ha
  rw [h, lines_flN b hb] at e
  have e2 := Option.some.inj e
  rw [← map_str_bs a, ← map_str_bs b, e2]
-- a note that is written is read
theorem note_there (body : ByteArray) (gs : List Sg) (hg : goesB body = true) (hf : ∀ g ∈ gs, Fine g) (hp : Pw gs) (h0 : gs.length ≠ 0) (h16 : gs.length ≤ 16) (RL : List ByteArray) (hG : Gives (noteOf body gs) RL) : readB (noteOf body gs) RL = some (body, gs) := by
  obtain ⟨l1, l2, l3⟩ := lines_there gs hf
  have hE : ends body = true := by unfold goesB at hg; exact (Bool.and_eq_true _ _ ▸ hg).1
  obtain ⟨TL, _, hT⟩ := gives_ex body
  obtain ⟨t1, t2⟩ := hT hE
  have hall : noteOf body gs = flN (TL.reverse ++ ByteArray.empty :: gs.map lnB) := by
    unfold noteOf
    rw [flN_app, flN, ← t1, l2, ByteArray.empty_append, ByteArray.append_assoc]
    rfl
  have hno : ∀ l ∈ TL.reverse ++ ByteArray.empty :: gs.map lnB, no10 l := by
    intro l hl
    rcases List.mem_append.1 hl with hl | hl
    · exact t2 l (List.mem_reverse.1 hl)
    · rcases List.mem_cons.1 hl with rfl | hl
      · exact fun j hj => by cases hj
      · exact (l3 l hl).1
  rcases hG with ⟨hn, h10⟩ | ⟨he, rfl⟩
  · have e := fl_inj (fun l hl => h10 l (List.mem_reverse.1 hl)) hno (hn.symm.trans hall)
    have e2 : RL = (gs.map lnB).reverse ++ ByteArray.empty :: TL := by
      rw [← List.reverse_reverse RL, e]; simp
    subst e2
    obtain ⟨_, e3⟩ := readB_split (gs.map lnB).reverse TL (fun l hl => (l3 l (List.mem_reverse.1 hl)).2) _ hn
    rw [e3, List.length_reverse, List.length_map, if_pos h16, List.reverse_reverse, fwd_some _ [] gs l1 (by rw [List.nil_append]; exact hp), List.nil_append]
    simp only
    rw [← t1, if_pos ⟨h0, hg⟩]
  · exfalso
    rcases flN_ends (TL.reverse ++ ByteArray.empty :: gs.map lnB) with hz | hz
    · rw [flN_app, ByteArray.size_append, flN, ByteArray.size_append, ByteArray.size_append, nl_size] at hz
      omega
    · rw [← hall, he] at hz
      cases hz
end Go.Proofs.YtfkpfmaphjeakaaDoor.w1

namespace Go.Proofs.YtfkpfmaphjeakaaDoor.w2
open Go.RowKit Go.PlainAid
open Go.Proofs.YtfkpfmaphjeakaaDoor.mo Go.Proofs.YtfkpfmaphjeakaaDoor.nh Go.Proofs.YtfkpfmaphjeakaaDoor.ta Go.Proofs.YtfkpfmaphjeakaaDoor.tb Go.Proofs.YtfkpfmaphjeakaaDoor.tc Go.Proofs.YtfkpfmaphjeakaaDoor.tj Go.Proofs.YtfkpfmaphjeakaaDoor.n1 Go.Proofs.YtfkpfmaphjeakaaDoor.n3 Go.Proofs.YtfkpfmaphjeakaaDoor.n4 Go.Proofs.YtfkpfmaphjeakaaDoor.o1 Go.Proofs.YtfkpfmaphjeakaaDoor.o3 Go.Proofs.YtfkpfmaphjeakaaDoor.o6 Go.Proofs.YtfkpfmaphjeakaaDoor.o7 Go.Proofs.YtfkpfmaphjeakaaDoor.p1 Go.Proofs.YtfkpfmaphjeakaaDoor.p2 Go.Proofs.YtfkpfmaphjeakaaDoor.q1 Go.Proofs.YtfkpfmaphjeakaaDoor.q2 Go.Proofs.YtfkpfmaphjeakaaDoor.q3 Go.Proofs.YtfkpfmaphjeakaaDoor.q5 Go.Proofs.YtfkpfmaphjeakaaDoor.r1 Go.Proofs.YtfkpfmaphjeakaaDoor.s1 Go.Proofs.YtfkpfmaphjeakaaDoor.t5 Go.Proofs.YtfkpfmaphjeakaaDoor.v2 Go.Proofs.YtfkpfmaphjeakaaDoor.v4 Go.Proofs.YtfkpfmaphjeakaaDoor.w1
set_option linter.unusedVariables false
set_option maxRecDepth 4000

-- keys of unlike names
def Ds (l : List Ky) : Prop := l.Pairwise (fun a b => a.1 ≠ b.1)
def KGood (l : List Ky) : Prop := Ds l ∧ ∀ k ∈ l, nm k.1 = true
abbrev sgs (t : ByteArray) (l : List Ky) : List Sg := l.map (fun k => sigOf k t)
theorem ds_ix {l : List Ky} (h : Ds l) {i j : Nat} (hi : i < l.length) (hj : j < l.length) (e : (l[i]'hi).1 = (l[j]'hj).1) : i = j := by
  unfold Ds at h
  rw [List.pairwise_iff_getElem] at h
  rcases Nat.lt_trichotomy i j with c | c | c
  · exact absurd e (h i j hi hj c)
  · exact c
  · exact absurd e.symm (h j i hj hi c)
theorem one_name {a b : Sg} (h : a.name ≠ b.name) : one a b = false := by
  unfold one eqB
  rw [decide_eq_false h]
  rfl
theorem fine_sig {k : Ky} (t : ByteArray) (h : nm k.1 = true) : Fine (sigOf k t) := ⟨kid_size _ _, macF_size _ _, h⟩
theorem fine_sgs {t : ByteArray} {l : List Ky} (h : KGood l) : ∀ g ∈ sgs t l, Fine g := by
  intro g hg
  obtain ⟨k, hk, rfl⟩ := List.mem_map.1 hg
  exact fine_sig t (h.2 k hk)
theorem pw_sgs {t : ByteArray} {l : List Ky} (h : Ds l) : Pw (sgs t l) := by
  unfold Pw sgs
  rw [List.pairwise_map]
  exact List.Pairwise.imp (fun {a b} e => one_name e) h
theorem good_take {l : List Ky} (h : KGood l) (n : Nat) : KGood (l.take n) := ⟨h.1.sublist (List.take_sublist n l), fun k hk => h.2 k (List.mem_of_mem_take hk)⟩
-- which are picked
def pick (b : Nat → Bool) : Nat → List Ky → List Ky
  | _, [] => []
  | i, k :: ks => if b i = true then k :: pick b (i + 1) ks else pick b (i + 1) ks
theorem pick_snoc (b : Nat → Bool) : ∀ (l : List Ky) (i : Nat) (k : Ky), pick b i (l ++ [k]) = pick b i l ++ (if b (i + l.length) = true then [k] else [])
  | [], i, k => by simp [pick]
  | x :: l, i, k => by
    rw [List.cons_append, pick, pick, pick_snoc b l (i + 1) k]
    have e : i + 1 + l.length = i + (x :: l).length := by simp; omega
    rw [e]
    split <;> simp
theorem pick_len (b : Nat → Bool) : ∀ (l : List Ky) (i : Nat), (pick b i l).length ≤ l.length
  | [], i => by simp [pick]
  | x :: l, i => by
    rw [pick]
    have := pick_len b l (i + 1)
    split <;> simp <;> omega
theorem pick_mem (b : Nat → Bool) : ∀ (l : List Ky) (i : Nat) (k : Ky), k ∈ pick b i l ↔ ∃ j, ∃ h : j < l.length, l[j]'h = k ∧ b (i + j) = true
  | [], i, k => by simp [pick]
  | x :: l, i, k => by
    have ih := pick_mem b l (i + 1) k
    have shift : (∃ j, ∃ h : j < (x :: l).length, (x :: l)[j]'h = k ∧ b (i + j) = true) ↔ (x = k ∧ b i = true) ∨ ∃ j, ∃ h : j < l.length, l[j]'h = k ∧ b (i + 1 + j) = true := by
      constructor
      · rintro ⟨j, h, h1, h2⟩
        cases j with
        | zero => exact .inl ⟨h1, h2⟩
        | succ j => exact .inr ⟨j, by simpa using h, by simpa using h1, by rw [show i + 1 + j = i + (j + 1) by omega]; exact h2⟩
      · rintro (⟨h1, h2⟩ | ⟨j, h, h1, h2⟩)
        · exact ⟨0, by simp, h1, h2⟩
        · exact ⟨j + 1, by simpa using h, by simpa using h1, by rw [show i + (j + 1) = i + 1 + j by omega]; exact h2⟩
    rw [shift, pick]
    split
    · rename_i hb
      rw [List.mem_cons, ih]
      constructor
      · rintro (rfl | h)
        · exact .inl ⟨rfl, hb⟩
        · exact .inr h
      · rintro (⟨rfl, _⟩ | h)
        · exact .inl rfl
        · exact .inr h
    · rename_i hb
      rw [ih]
      constructor
      · exact fun h => .inr h
      · rintro (⟨_, h⟩ | h)
        · exact absurd h hb
        · exact h
-- the owner among some keys
theorem own_no (g : Sg) (l : List Ky) : ∀ n, (∀ k ∈ l, kg k g = false) → ownF g l n = -1 := by
  induction l with
  | nil => intro n _; rfl
  | cons k l ih =>
    intro n h
    unfold ownF
    rw [if_neg (by rw [h k (by simp)]; decide)]
    exact ih (n + 1) (fun x hx => h x (by simp [hx]))
theorem own_yes (g : Sg) (l : List Ky) : ∀ n, (∃ k ∈ l, kg k g = true) → ∃ j, ∃ h : j < l.length, ownF g l n = ((n + j : Nat) : Int) ∧ kg (l[j]'h) g = true := by
  induction l with
  | nil => rintro n ⟨k, hk, _⟩; cases hk
  | cons k l ih =>
    intro n h
    unfold ownF
    by_cases hk : kg k g = true
    · rw [if_pos hk]
      exact ⟨0, by simp, by simp, hk⟩
    · rw [if_neg hk]
      obtain ⟨x, hx, hg⟩ := h
      rcases List.mem_cons.1 hx with rfl | hx
      · exact absurd hg hk
      · obtain ⟨j, hj, h1, h2⟩ := ih (n + 1) ⟨x, hx, hg⟩
        exact ⟨j + 1, by simpa using hj, by rw [h1]; congr 1; omega, by simpa using h2⟩
theorem kg_sig (k k' : Ky) (t : ByteArray) : kg k' (sigOf k t) = true ↔ k.1 = k'.1 ∧ kidF k.1 k.2 = kidF k'.1 k'.2 := by
  unfold kg one
  rw [Bool.and_eq_true, eqB_true, eqB_true]
  rfl
theorem kg_own (k : Ky) (t : ByteArray) : kg k (sigOf k t) = true := (kg_sig k k t).2 ⟨rfl, rfl⟩
theorem op_pick (M : List Ky) (t : ByteArray) (b : Nat → Bool) : ∀ (ks : List Ky) (i : Nat) (s : List Sg × List Sg), (∀ j, ∀ h : j < ks.length, (b (i + j) = true → 0 ≤ ownF (sigOf (ks[j]'h) t) M 0 ∧ sec M (sigOf (ks[j]'h) t) = (ks[j]'h).2) ∧ (b (i + j) = false → ownF (sigOf (ks[j]'h) t) M 0 < 0)) →
    opF M t (sgs t ks) s = some (s.1 ++ sgs t (pick b i ks), s.2 ++ sgs t (pick (fun j => !b j) i ks))
  | [], i, s, _ => by simp [opF, pick, sgs]
  | k :: ks, i, s, h => by
    have h0 := h 0 (by simp)
    rw [Nat.add_zero] at h0
    simp only [List.getElem_cons_zero] at h0
    have ih := fun s => op_pick M t b ks (i + 1) s (fun j hj => by
      have := h (j + 1) (by simpa using hj)
      rw [show i + (j + 1) = i + 1 + j by omega] at this
      simpa using this)
    show opF M t (sigOf k t :: sgs t ks) s = _
    rw [opF]
    cases hb : b i
    · rw [if_pos (h0.2 hb), ih]
      simp [pick, hb, sgs]
    · obtain ⟨g1, g2⟩ := h0.1 hb
      rw [if_neg (by omega), if_pos (by rw [g2]; rfl), ih]
      simp [pick, hb, sgs]
theorem op_mine (l : List Ky) (hd : Ds l) (t : ByteArray) (b : Nat → Bool) : opF (pick b 0 l) t (sgs t l) ([], []) = some (sgs t (pick b 0 l), sgs t (pick (fun j => !b j) 0 l)) := by
  rw [op_pick (pick b 0 l) t b l 0 ([], []) ?_, List.nil_append, List.nil_append]
  intro j hj
  rw [Nat.zero_add]
  constructor
  · intro hb
    have hm : l[j] ∈ pick b 0 l := (pick_mem b l 0 _).2 ⟨j, hj, rfl, by rw [Nat.zero_add]; exact hb⟩
    obtain ⟨i, hi, h1, h2⟩ := own_yes (sigOf l[j] t) (pick b 0 l) 0 ⟨l[j], hm, kg_own _ _⟩
    refine ⟨by omega, ?_⟩
    obtain ⟨e1, _⟩ := (kg_sig _ _ _).1 h2
    obtain ⟨j', hj', e2, _⟩ := (pick_mem b l 0 _).1 (List.getElem_mem hi)
    have ej : j = j' := ds_ix hd hj hj' (by rw [e2]; exact e1)
    subst ej
    unfold sec
    rw [h1, Nat.zero_add, Int.toNat_natCast, List.getD_eq_getElem?_getD, List.getElem?_eq_getElem hi]
    simp only [Option.getD_some]
    rw [← e2]
  · intro hb
    rw [own_no]
    · omega
    · intro k hk
      obtain ⟨j', hj', e2, hb'⟩ := (pick_mem b l 0 _).1 hk
      cases hkg : kg k (sigOf l[j] t)
      · rfl
      · obtain ⟨e1, _⟩ := (kg_sig _ _ _).1 hkg
        have ej : j = j' := ds_ix hd hj hj' (by rw [e2]; exact e1)
        subst ej
        rw [Nat.zero_add, hb] at hb'
        cases hb'
-- the answers over a note of one's own
theorem note_size (t : ByteArray) (l : List Ky) (h : KGood l) (h8 : l.length ≤ 8) (ht : t.size ≤ 20001) : (noteOf t (sgs t l)).size ≤ 30000 := by
  have h1 := sz_small l h.2
  have h2 := ln_sz l t
  have h3 : (noteOf t (sgs t l)).size = t.size + 1 + szL l := by
    unfold noteOf
    rw [ByteArray.size_append, ByteArray.size_append]
    have e : (flatB ((sgs t l).map lineOf)).size = szL l := flat_size l t
    rw [e]
    rfl
  omega
theorem sign_note (t : ByteArray) (l : List Ky) (hg : goesB t = true) (h : KGood l) (h0 : l.length ≠ 0) (h8 : l.length ≤ 8) (ht : t.size ≤ 20001) (he : tgF [] l = 0) : signV t l = .tuple #[.string (noteOf t (sgs t l)), .int .i64 0] := by
  have hs := sz_small l h.2
  have e : signE t l = 0 := by
    unfold signE
    rw [if_neg (by rw [hg]; decide), if_neg h0, if_neg (by omega), if_neg (by rw [he]; decide), if_neg (by omega)]
  unfold signV signT
  rw [e, if_pos rfl]
theorem tg_ok : ∀ (ks : List Ky) (d : List Sg), (∀ k ∈ ks, nm k.1 = true) → (∀ k ∈ ks, ∀ a ∈ d, a.name ≠ k.1) → Ds ks → tgF d ks = 0
  | [], _, _, _, _ => rfl
  | k :: ks, d, h1, h2, h3 => by
    unfold Ds at h3
    rw [List.pairwise_cons] at h3
    have ha : amg d ⟨k.1, kidF k.1 k.2, ByteArray.empty⟩ = false := amg_false.2 (fun a ha => one_name (h2 k (by simp) a ha))
    unfold tgF
    rw [if_neg (by rw [h1 k (by simp)]; decide), if_neg (by rw [ha]; decide)]
    refine tg_ok ks _ (fun x hx => h1 x (by simp [hx])) (fun x hx a haa => ?_) h3.2
    rcases List.mem_append.1 haa with haa | haa
    · exact h2 x (by simp [hx]) a haa
    · rw [List.mem_singleton.1 haa]
      exact h3.1 x hx
theorem tg_good {l : List Ky} (h : KGood l) : tgF [] l = 0 := tg_ok l [] h.2 (fun _ _ a ha => by cases ha) h.1
theorem read_good (t : ByteArray) (l : List Ky) (hg : goesB t = true) (h : KGood l) (h0 : l.length ≠ 0) (h8 : l.length ≤ 8) (RL : List ByteArray) (hG : Gives (noteOf t (sgs t l)) RL) : readB (noteOf t (sgs t l)) RL = some (t, sgs t l) :=
  note_there t _ hg (fine_sgs h) (pw_sgs h.1) (by rw [List.length_map]; exact h0) (by rw [List.length_map]; omega) RL hG
theorem sgs_snoc (t : ByteArray) (l : List Ky) (k : Ky) : sgs t (l ++ [k]) = sgs t l ++ [sigOf k t] := by simp [sgs]
theorem note_snoc1 (t : ByteArray) (l : List Ky) (k : Ky) : noteOf t (sgs t (l ++ [k])) = noteOf t (sgs t l) ++ lineOf (sigOf k t) := by
  unfold noteOf
  rw [sgs_snoc, List.map_append, flat_app, ← ByteArray.append_assoc]
  congr 1
  show lineOf (sigOf k t) ++ ByteArray.empty = _
  rw [ByteArray.append_empty]
theorem add_new (t : ByteArray) (l : List Ky) (k : Ky) (hg : goesB t = true) (h : KGood (l ++ [k])) (h0 : l.length ≠ 0) (h8 : l.length < 8) (ht : t.size ≤ 20001) (RL : List ByteArray) (hG : Gives (noteOf t (sgs t l)) RL) : addB (noteOf t (sgs t l)) RL k.1 k.2 = (noteOf t (sgs t (l ++ [k])), 0) := by
  have hl : KGood l := by have := good_take h l.length; rwa [List.take_left'] at this; rfl
  have hz := note_size t _ h (by simp; omega) ht
  rw [note_snoc1, ByteArray.size_append] at hz
  have hnk : nm k.1 = true := h.2 k (by simp)
  have ha : amg (sgs t l) ⟨k.1, kidF k.1 k.2, ByteArray.empty⟩ = false := amg_false.2 (fun a ha => by
    obtain ⟨x, hx, rfl⟩ := List.mem_map.1 ha
    exact one_name ((List.pairwise_append.1 h.1).2.2 x hx k (by simp)))
  unfold addB
  rw [if_pos hnk, if_neg (by omega), read_good t l hg hl h0 (by omega) RL hG]
  simp only
  rw [if_neg (by rw [ha]; decide), if_neg (by rw [List.length_map]; omega), if_neg (show ¬ 65536 < (noteOf t (sgs t l)).size + (lineOf (sigOf (k.1, k.2) t)).size from by show ¬ 65536 < (noteOf t (sgs t l)).size + (lineOf (sigOf k t)).size; omega), note_snoc1]
theorem add_old (t : ByteArray) (l : List Ky) (k : Ky) (hg : goesB t = true) (h : KGood l) (h8 : l.length ≤ 8) (ht : t.size ≤ 20001) (hk : k ∈ l) (RL : List ByteArray) (hG : Gives (noteOf t (sgs t l)) RL) : addB (noteOf t (sgs t l)) RL k.1 k.2 = (noteOf t (sgs t l), 0) := by
  have hz := note_size t _ h h8 ht
  have h0 : l.length ≠ 0 := by intro e; rw [List.length_eq_zero_iff.1 e] at hk; cases hk
  have ha : amg (sgs t l) ⟨k.1, kidF k.1 k.2, ByteArray.empty⟩ = true := by
    unfold amg
    rw [List.any_eq_true]
    refine ⟨sigOf k t, List.mem_map.2 ⟨k, hk, rfl⟩, ?_⟩
    unfold one
    rw [Bool.and_eq_true, eqB_true, eqB_true]
    exact ⟨rfl, rfl⟩
  unfold addB
  rw [if_pos (h.2 k hk), if_neg (by omega), read_good t l hg h h0 h8 RL hG]
  simp only
  rw [if_pos ha]
theorem open_mine (t : ByteArray) (l : List Ky) (b : Nat → Bool) (hg : goesB t = true) (h : KGood l) (h0 : l.length ≠ 0) (h8 : l.length ≤ 8) (ht : t.size ≤ 20001) (RL : List ByteArray) (hG : Gives (noteOf t (sgs t l)) RL) :
    opB (noteOf t (sgs t l)) RL (pick b 0 l) = if (pick b 0 l).length = 0 then noO 202 else ((t, sgs t (pick b 0 l), sgs t (pick (fun j => !b j) 0 l)), 0) := by
  have hz := note_size t _ h h8 ht
  unfold opB
  rw [if_neg (by omega), read_good t l hg h h0 h8 RL hG]
  simp only
  rw [op_mine l h.1 t b]
  simp only [List.length_map]
end Go.Proofs.YtfkpfmaphjeakaaDoor.w2

namespace Go.Proofs.YtfkpfmaphjeakaaDoor.w3
open Go.RowKit Go.PlainAid
open Go.Proofs.YtfkpfmaphjeakaaDoor.mo Go.Proofs.YtfkpfmaphjeakaaDoor.nh Go.Proofs.YtfkpfmaphjeakaaDoor.ta Go.Proofs.YtfkpfmaphjeakaaDoor.tb Go.Proofs.YtfkpfmaphjeakaaDoor.tc Go.Proofs.YtfkpfmaphjeakaaDoor.tj Go.Proofs.YtfkpfmaphjeakaaDoor.n1 Go.Proofs.YtfkpfmaphjeakaaDoor.n3 Go.Proofs.YtfkpfmaphjeakaaDoor.n4 Go.Proofs.YtfkpfmaphjeakaaDoor.o1 Go.Proofs.YtfkpfmaphjeakaaDoor.o3 Go.Proofs.YtfkpfmaphjeakaaDoor.kp Go.Proofs.YtfkpfmaphjeakaaDoor.w1 Go.Proofs.YtfkpfmaphjeakaaDoor.w2
open Go.Proofs.YtfkpfmaphjeakaaDoor.ka (new_text)
open Go.Proofs.YtfkpfmaphjeakaaDoor.uc (pr)
set_option linter.unusedVariables false
set_option maxRecDepth 4000

-- bytes that are kept
def accL (lim : Nat) (p : Int → Bool) : List Int → List Int → List Int
  | [], o => o
  | b :: r, o => if o.length < lim then accL lim p r (if p b = true then o ++ [b] else o) else o
theorem acc_all (lim : Nat) (p : Int → Bool) (P : Int → Prop) : ∀ (l o : List Int), (∀ x ∈ l, p x = true → P x) → (∀ x ∈ o, P x) → o.length ≤ lim → (∀ x ∈ accL lim p l o, P x) ∧ (accL lim p l o).length ≤ lim
  | [], o, _, h, hl => ⟨h, hl⟩
  | b :: r, o, h1, h, hl => by
    rw [accL]
    split
    · rename_i hlt
      refine acc_all lim p P r _ (fun x hx => h1 x (by simp [hx])) (fun x hx => ?_) ?_
      · split at hx
        · rename_i hp
          rcases List.mem_append.1 hx with hx | hx
          · exact h x hx
          · rw [List.mem_singleton.1 hx]; exact h1 b (by simp) hp
        · exact h x hx
      · split
        · simp; omega
        · exact hl
    · exact ⟨h, hl⟩
theorem acc_step (lim : Nat) (p : Int → Bool) (s : ByteArray) (k : Nat) (h : k < s.size) (o : List Int) (hl : o.length < lim) : accL lim p ((bs s).drop k) o = accL lim p ((bs s).drop (k + 1)) (if p (bt s k) = true then o ++ [bt s k] else o) := by
  rw [List.drop_eq_getElem_cons (by rw [bs_length]; exact h), bs_get s k h, accL, if_pos hl]
theorem acc_end (lim : Nat) (p : Int → Bool) (s : ByteArray) (o : List Int) : accL lim p ((bs s).drop s.size) o = o := by
  rw [List.drop_of_length_le (by rw [bs_length]; exact Nat.le_refl _), accL]
theorem acc_full (lim : Nat) (p : Int → Bool) (l o : List Int) (h : ¬ o.length < lim) : accL lim p l o = o := by
  cases l with
  | nil => rfl
  | cons b r => rw [accL, if_neg h]
def nmL (s : ByteArray) : List Int := accL 64 ok1 (bs s) []
def nmd (s : ByteArray) : ByteArray := if (nmL s).length = 0 then ⟨#[110]⟩ else str (nmL s)
def okl (b : Int) : Bool := b == 10 || (decide (32 ≤ b) && decide (b ≤ 126))
def ldL (s : ByteArray) : List Int := accL 20000 okl (bs s) []
def lnd (s : ByteArray) : ByteArray := str (ldL s ++ [10])
theorem nml_all (s : ByteArray) : (∀ x ∈ nmL s, ok1 x = true) ∧ (nmL s).length ≤ 64 := acc_all 64 ok1 (fun x => ok1 x = true) (bs s) [] (fun x _ h => h) (fun x h => by cases h) (by simp)
theorem ok1_in {x : Int} (h : ok1 x = true) : 0 ≤ x ∧ x < 256 := by
  unfold ok1 pr at h
  simp only [Bool.and_eq_true, decide_eq_true_eq] at h
  omega
theorem nm_nmd (s : ByteArray) : nm (nmd s) = true := by
  unfold nmd
  split
  · decide +kernel
  · rename_i h0
    obtain ⟨h1, h2⟩ := nml_all s
    have hin : In 256 (nmL s) := fun x hx => ok1_in (h1 x hx)
    unfold nm
    rw [str_size, bs_str _ hin, decide_eq_true h0, decide_eq_true h2, Bool.true_and, Bool.true_and, List.all_eq_true]
    exact h1
theorem okl_in {x : Int} (h : okl x = true) : (x = 10 ∨ 32 ≤ x) ∧ 0 ≤ x ∧ x ≤ 126 := by
  unfold okl at h
  simp only [Bool.or_eq_true, Bool.and_eq_true, decide_eq_true_eq, beq_iff_eq] at h
  omega
theorem ld_all (s : ByteArray) : (∀ x ∈ ldL s, okl x = true) ∧ (ldL s).length ≤ 20000 := acc_all 20000 okl (fun x => okl x = true) (bs s) [] (fun x _ h => h) (fun x h => by cases h) (by simp)
theorem lnd_size (s : ByteArray) : (lnd s).size ≤ 20001 := by
  unfold lnd
  rw [str_size, List.length_append]
  have := (ld_all s).2
  simp; omega
theorem rd_ascii (s : ByteArray) (h : ∀ k, (hk : k < s.size) → (s[k]'hk).toNat < 128 ∧ (32 ≤ (s[k]'hk).toNat ∨ (s[k]'hk).toNat = 10)) : ∀ f p, rdF s f p = true
  | 0, p => rfl
  | f + 1, p => by
    unfold rdF
    by_cases hp : p < s.size
    · obtain ⟨h1, h2⟩ := h p hp
      have hd := decode_ascii s p hp h1
      rw [if_pos hp, if_neg (by rw [hd]; show ¬ ((s[p]'hp).toNat < 32 ∧ (s[p]'hp).toNat ≠ 10); omega), if_neg (by intro hb; have := hb.1; rw [hd] at this; have e : (s[p]'hp).toNat = 65533 := this; omega)]
      exact rd_ascii s h f _
    · rw [if_neg hp]
theorem goes_lnd (s : ByteArray) : goesB (lnd s) = true := by
  obtain ⟨h1, _⟩ := ld_all s
  have hall : ∀ x ∈ ldL s ++ [10], okl x = true := by
    intro x hx
    rcases List.mem_append.1 hx with hx | hx
    · exact h1 x hx
    · rw [List.mem_singleton.1 hx]; rfl
  have hz : (lnd s).size = (ldL s).length + 1 := by unfold lnd; rw [str_size]; simp
  have hbt : ∀ k, (hk : k < (ldL s ++ [10]).length) → bt (lnd s) k = (ldL s ++ [10])[k]'hk := fun k hk => by
    have := okl_in (hall _ (List.getElem_mem hk))
    exact str_bt _ k hk this.2.1 (by omega)
  have he : ends (lnd s) = true := (ends_iff _).2 ⟨(ldL s).length, hz, by rw [hbt _ (by simp)]; simp⟩
  have hr : readable (lnd s) = true := rd_ascii (lnd s) (fun k hk => by
    have hkl : k < (ldL s ++ [10]).length := by rw [hz] at hk; simpa using hk
    have e := get_bt (lnd s) k hk
    rw [hbt k hkl] at e
    have := okl_in (hall _ (List.getElem_mem hkl))
    omega) _ _
  unfold goesB
  rw [he, hr]
  rfl
theorem one_b (x : Int) : ∀ u ∈ [Value.int .u8 x], u.oneCell' = true := by
  intro u hu; rw [List.mem_singleton.1 hu]; rfl
theorem own_form {w : World} {B t z n : Nat} {v : Value} {xs : List Value} (o : w.ownsRow B t z v n xs) : ∃ a c, v = .slice a n c := by
  rcases o.2 with ⟨rfl, h0⟩ | ⟨g, cap, cur, rfl, _⟩
  · exact ⟨none, 0, by rw [h0]⟩
  · exact ⟨_, cap, rfl⟩
set_option maxHeartbeats 1600000 in
theorem namedC (s : ByteArray) (hs : s.size ≤ 140737488351232) (w : World) :
    Calls Tryd.prog 31 #[.string s] w fun e w' => e = .returned (.string (nmd s)) ∧ Below w.heap.size w w' := by
  obtain ⟨i0, hi, hz0, hz1, hz2⟩ := info_parts info5
  have HIN : Hid (_ ∧ _ ∧ _ ∧ _) := ⟨hi, hz0, hz1, hz2⟩
  clear hi hz0 hz1 hz2
  obtain ⟨R, HR⟩ : ∃ R, Hid (nmL s = R) := ⟨_, rfl⟩
  have HD : Hid (nmd s = if R.length = 0 then ⟨#[110]⟩ else str R) := by show _ = _; rw [← HR.out]; rfl
  obtain ⟨D, HDD⟩ : ∃ D, Hid (nmd s = D) := ⟨_, rfl⟩
  rw [HDD.out] at HD ⊢
  have hgb := get_bt s
  go_enter Tryd.func31, Tryd.ntmps31
  go_wp2
  go_loopw [3, 4] (fun ov iv wr => ∃ (k : Nat) (o : List Int), k ≤ s.size ∧ o.length ≤ 64 ∧ iv = .int .i64 k ∧ Hid (wr.ownsRow w.heap.size 5 1 ov o.length (o.map (Value.int .u8)) ∧ Below w.heap.size w wr ∧ accL 64 ok1 ((bs s).drop k) o = R)) (fun _ iv _ => (s.size - intOf iv).toNat)
  case atStart => exact ⟨0, [], by omega, by simp, rfl, World.ownsRow_nil _ _ _ _, Below.refl _ _, HR.out⟩
  case round =>
    obtain ⟨k, o, hk, hl, rfl, HH⟩ := hrel
    obtain ⟨oa, oc, hv⟩ := own_form HH.out.1
    subst hv
    obtain ⟨n, HN⟩ : ∃ n, Hid (o.length = n) := ⟨_, rfl⟩
    have HO : Hid (wr.ownsRow w.heap.size 5 1 (.slice oa n oc) n (o.map (Value.int .u8))) := by have := HH.out.1; rw [HN.out] at this; exact this
    have HB : Hid (Below w.heap.size w wr) := HH.out.2.1
    have HA : Hid (accL 64 ok1 ((bs s).drop k) o = R) := HH.out.2.2
    have hn64 : n ≤ 64 := by rw [← HN.out]; exact hl
    rw [HN.out]
    clear HH hl
    by_cases hlt : k < s.size ∧ n < 64
    · obtain ⟨hlt, hn⟩ := hlt
      have hlt' : (k : Int) < s.size := by omega
      have hn' : (n : Int) < 64 := by omega
      have HS : Hid (accL 64 ok1 ((bs s).drop (k + 1)) (if ok1 (bt s k) = true then o ++ [bt s k] else o) = R) := by show _ = _; rw [← acc_step 64 ok1 s k hlt o (by rw [HN.out]; exact hn)]; exact HA.out
      obtain ⟨b, HBT⟩ : ∃ b, Hid (bt s k = b) := ⟨_, rfl⟩
      have hgk : ∀ (h : k < s.size), ((s[k]'h).toNat : Int) = b := fun h => (hgb k h).trans HBT.out
      rw [HBT.out] at HS
      clear hgb HA
      by_cases hok : ok1 b = true
      · have HS2 : Hid (accL 64 ok1 ((bs s).drop (k + 1)) (o ++ [b]) = R) := by have := HS.out; rw [if_pos hok] at this; exact this
        obtain ⟨hb0, hb1⟩ := ok1_in hok
        have h1 : b > 32 := by unfold ok1 pr at hok; simp only [Bool.and_eq_true, decide_eq_true_eq] at hok; omega
        have h2 : b < 127 := by unfold ok1 pr at hok; simp only [Bool.and_eq_true, decide_eq_true_eq] at hok; omega
        have h3 : (b == 43) = false := by unfold ok1 at hok; simp only [Bool.and_eq_true] at hok; simpa using hok.2
        have h3' : (b != 43) = true := by rw [bne, h3]; rfl
        have HOA : Hid ((wr.alloc (.cells #[.int .u8 b] 5)).ownsRow w.heap.size 5 1 (.slice oa n oc) n (o.map (Value.int .u8))) := HO.out.alloc _
        have BA : Hid (Below w.heap.size w (wr.alloc (.cells #[.int .u8 b] 5))) := HB.out.alloc HB.out.size _
        clear hok HS
        go_wp2_with (at_builtin; refine wpList_append_own _ rfl _ _ 60 rfl w.heap.size 5 i0 (.int .u8 0) 1 1 Tryd.underlying60 HIN.out.1 HIN.out.2.1 HIN.out.2.2.1 HIN.out.2.2.2 rfl (by decide) (.slice oa n oc) n _ rfl HOA.out ⟨wr.heap.size, 0, none⟩ 1 1 [.int .u8 b] rfl rfl (new_text _ _ _) (one_b _) (by unfold maxLen; omega) (by omega) BA.out.size ?_; intro v1 w2 ho hg hnn; have HO1 : Hid (World.ownsRow _ _ _ _ _ _ _) := ho; have HB1 : Hid (Below w.heap.size w w2) := BA.out.grown hg BA.out.size (fun j hj => (HOA.out.lt _ hj).1); clear ho hg hnn)
        go_roundw
        case rel => exact ⟨k + 1, o ++ [b], by omega, by rw [List.length_append, HN.out]; simp; omega, by first | rfl | go_num, by rw [List.length_append, HN.out, List.map_append]; exact HO1.out, HB1.out, HS2.out⟩
        case measure => simp [intOf]; omega
      · have HS2 : Hid (accL 64 ok1 ((bs s).drop (k + 1)) o = R) := by have := HS.out; rw [if_neg hok] at this; exact this
        have hcs : ¬ b > 32 ∨ (b > 32 ∧ ¬ b < 127) ∨ (b > 32 ∧ b < 127 ∧ b = 43) := by
          unfold ok1 pr at hok
          simp only [Bool.and_eq_true, decide_eq_true_eq, Bool.not_eq_true', beq_eq_false_iff_ne] at hok
          omega
        clear hok HS
        rcases hcs with h1 | ⟨h1, h2⟩ | ⟨h1, h2, h3⟩
        · go_wp2
          go_roundw
          case rel => exact ⟨k + 1, o, by omega, by rw [HN.out]; exact hn64, by first | rfl | go_num, by rw [HN.out]; exact HO.out, HB.out, HS2.out⟩
          case measure => simp [intOf]; omega
        · go_wp2
          go_roundw
          case rel => exact ⟨k + 1, o, by omega, by rw [HN.out]; exact hn64, by first | rfl | go_num, by rw [HN.out]; exact HO.out, HB.out, HS2.out⟩
          case measure => simp [intOf]; omega
        · have h4 : (b == 43) = true := by rw [h3]; rfl
          have h4' : (b != 43) = false := by rw [bne, h4]; rfl
          clear h3
          go_wp2
          go_roundw
          case rel => exact ⟨k + 1, o, by omega, by rw [HN.out]; exact hn64, by first | rfl | go_num, by rw [HN.out]; exact HO.out, HB.out, HS2.out⟩
          case measure => simp [intOf]; omega
    · have HE : Hid (o = R) := by
        show _ = _
        rw [← HA.out]
        rcases Nat.lt_or_ge k s.size with c | c
        · rw [acc_full _ _ _ _ (by rw [HN.out]; intro e; exact hlt ⟨c, e⟩)]
        · obtain rfl : k = s.size := by omega
          rw [acc_end]
      have CV : Hid (_ = _) := own_conv wr w.heap.size (.slice oa n oc) o n HN.out.symm HO.out
      have hcs : (k : Int) < s.size ∧ ¬ (n : Int) < 64 ∨ ¬ (k : Int) < s.size := by omega
      have cv := CV.out
      have HT : Hid (D = if n = 0 then ⟨#[110]⟩ else str o) := by show _ = _; rw [HD.out, ← HE.out, HN.out]
      have hsz : (str o).size = n := by rw [str_size, HN.out]
      generalize str o = T at *
      clear hlt CV HA HE HD hgb
      by_cases h0 : n = 0
      · have HT2 : Hid (D = ⟨#[110]⟩) := by show _ = _; rw [HT.out, if_pos h0]
        have g0 : ((n : Int) == 0) = true := by rw [h0]; rfl
        have g0' : (n : Int) = 0 := by omega
        clear HT h0
        rcases hcs with ⟨h1, h2⟩ | h1
        · omega
        · go_wp2
          go_ret
          exact ⟨(by rw [HT2.out]; try rfl), HB.out⟩
      · have HT2 : Hid (D = T) := by show _ = _; rw [HT.out, if_neg h0]
        have g0 : ((n : Int) == 0) = false := beq_eq_false_iff_ne.2 (by omega)
        have g0' : ¬ (n : Int) = 0 := by omega
        clear HT h0
        rcases hcs with ⟨h1, h2⟩ | h1
        · go_wp2
          go_ret
          exact ⟨(by rw [HT2.out]; try rfl), HB.out⟩
        · go_wp2
          go_ret
          exact ⟨(by rw [HT2.out]; try rfl), HB.out⟩
end Go.Proofs.YtfkpfmaphjeakaaDoor.w3

namespace Go.Proofs.YtfkpfmaphjeakaaDoor.w4
open Go.RowKit Go.PlainAid
open Go.Proofs.YtfkpfmaphjeakaaDoor.mo Go.Proofs.YtfkpfmaphjeakaaDoor.nh Go.Proofs.YtfkpfmaphjeakaaDoor.tb Go.Proofs.YtfkpfmaphjeakaaDoor.tc Go.Proofs.YtfkpfmaphjeakaaDoor.tj Go.Proofs.YtfkpfmaphjeakaaDoor.n1 Go.Proofs.YtfkpfmaphjeakaaDoor.n3 Go.Proofs.YtfkpfmaphjeakaaDoor.n4 Go.Proofs.YtfkpfmaphjeakaaDoor.o1 Go.Proofs.YtfkpfmaphjeakaaDoor.o3 Go.Proofs.YtfkpfmaphjeakaaDoor.kp Go.Proofs.YtfkpfmaphjeakaaDoor.w1 Go.Proofs.YtfkpfmaphjeakaaDoor.w2 Go.Proofs.YtfkpfmaphjeakaaDoor.w3
open Go.Proofs.YtfkpfmaphjeakaaDoor.ka (new_text)
set_option linter.unusedVariables false
set_option maxRecDepth 4000

set_option maxHeartbeats 1600000 in
theorem linedC (s : ByteArray) (hs : s.size ≤ 140737488351232) (w : World) :
    Calls Tryd.prog 10 #[.string s] w fun e w' => e = .returned (.string (lnd s)) ∧ Below w.heap.size w w' := by
  obtain ⟨i0, hi, hz0, hz1, hz2⟩ := info_parts info5
  have HIN : Hid (_ ∧ _ ∧ _ ∧ _) := ⟨hi, hz0, hz1, hz2⟩
  clear hi hz0 hz1 hz2
  obtain ⟨R, HR⟩ : ∃ R, Hid (ldL s = R) := ⟨_, rfl⟩
  have HD : Hid (lnd s = str (R ++ [10])) := by show _ = _; rw [← HR.out]; rfl
  obtain ⟨D, HDD⟩ : ∃ D, Hid (lnd s = D) := ⟨_, rfl⟩
  rw [HDD.out] at HD ⊢
  have hgb := get_bt s
  go_enter Tryd.func10, Tryd.ntmps10
  go_wp2
  go_loopw [3, 4] (fun ov iv wr => ∃ (k : Nat) (o : List Int), k ≤ s.size ∧ o.length ≤ 20000 ∧ iv = .int .i64 k ∧ Hid (wr.ownsRow w.heap.size 5 1 ov o.length (o.map (Value.int .u8)) ∧ Below w.heap.size w wr ∧ accL 20000 okl ((bs s).drop k) o = R)) (fun _ iv _ => (s.size - intOf iv).toNat)
  case atStart => exact ⟨0, [], by omega, by simp, rfl, World.ownsRow_nil _ _ _ _, Below.refl _ _, HR.out⟩
  case round =>
    obtain ⟨k, o, hk, hl, rfl, HH⟩ := hrel
    obtain ⟨oa, oc, hv⟩ := own_form HH.out.1
    subst hv
    obtain ⟨n, HN⟩ : ∃ n, Hid (o.length = n) := ⟨_, rfl⟩
    have HO : Hid (wr.ownsRow w.heap.size 5 1 (.slice oa n oc) n (o.map (Value.int .u8))) := by have := HH.out.1; rw [HN.out] at this; exact this
    have HB : Hid (Below w.heap.size w wr) := HH.out.2.1
    have HA : Hid (accL 20000 okl ((bs s).drop k) o = R) := HH.out.2.2
    have hn64 : n ≤ 20000 := by rw [← HN.out]; exact hl
    rw [HN.out]
    clear HH hl
    by_cases hlt : k < s.size ∧ n < 20000
    · obtain ⟨hlt, hn⟩ := hlt
      have hlt' : (k : Int) < s.size := by omega
      have hn' : (n : Int) < 20000 := by omega
      have HS : Hid (accL 20000 okl ((bs s).drop (k + 1)) (if okl (bt s k) = true then o ++ [bt s k] else o) = R) := by show _ = _; rw [← acc_step 20000 okl s k hlt o (by rw [HN.out]; exact hn)]; exact HA.out
      obtain ⟨b, HBT⟩ : ∃ b, Hid (bt s k = b) := ⟨_, rfl⟩
      have hgk : ∀ (h : k < s.size), ((s[k]'h).toNat : Int) = b := fun h => (hgb k h).trans HBT.out
      rw [HBT.out] at HS
      clear hgb HA
      by_cases hok : okl b = true
      · have HS2 : Hid (accL 20000 okl ((bs s).drop (k + 1)) (o ++ [b]) = R) := by have := HS.out; rw [if_pos hok] at this; exact this
        obtain ⟨hb0, hb1⟩ := okl_in hok
        have hcs : (b = 10) ∨ (b ≠ 10 ∧ b ≥ 32 ∧ b < 127) := by have := okl_in hok; omega
        have HOA : Hid ((wr.alloc (.cells #[.int .u8 b] 5)).ownsRow w.heap.size 5 1 (.slice oa n oc) n (o.map (Value.int .u8))) := HO.out.alloc _
        have BA : Hid (Below w.heap.size w (wr.alloc (.cells #[.int .u8 b] 5))) := HB.out.alloc HB.out.size _
        clear hok HS
        rcases hcs with h1 | ⟨h1, h2, h3⟩
        · have g1 : (b == 10) = true := by rw [h1]; rfl
          clear h1
          go_wp2_with (at_builtin; refine wpList_append_own _ rfl _ _ 60 rfl w.heap.size 5 i0 (.int .u8 0) 1 1 Tryd.underlying60 HIN.out.1 HIN.out.2.1 HIN.out.2.2.1 HIN.out.2.2.2 rfl (by decide) (.slice oa n oc) n _ rfl HOA.out ⟨wr.heap.size, 0, none⟩ 1 1 [.int .u8 b] rfl rfl (new_text _ _ _) (one_b _) (by unfold maxLen; omega) (by omega) BA.out.size ?_; intro v1 w2 ho hg hnn; have HO1 : Hid (World.ownsRow _ _ _ _ _ _ _) := ho; have HB1 : Hid (Below w.heap.size w w2) := BA.out.grown hg BA.out.size (fun j hj => (HOA.out.lt _ hj).1); clear ho hg hnn)
          go_roundw
          case rel => exact ⟨k + 1, o ++ [b], by omega, by rw [List.length_append, HN.out]; simp; omega, by first | rfl | go_num, by rw [List.length_append, HN.out, List.map_append]; exact HO1.out, HB1.out, HS2.out⟩
          case measure => simp [intOf]; omega
        · have g1 : (b == 10) = false := beq_eq_false_iff_ne.2 h1
          clear h1
          go_wp2_with (at_builtin; refine wpList_append_own _ rfl _ _ 60 rfl w.heap.size 5 i0 (.int .u8 0) 1 1 Tryd.underlying60 HIN.out.1 HIN.out.2.1 HIN.out.2.2.1 HIN.out.2.2.2 rfl (by decide) (.slice oa n oc) n _ rfl HOA.out ⟨wr.heap.size, 0, none⟩ 1 1 [.int .u8 b] rfl rfl (new_text _ _ _) (one_b _) (by unfold maxLen; omega) (by omega) BA.out.size ?_; intro v1 w2 ho hg hnn; have HO1 : Hid (World.ownsRow _ _ _ _ _ _ _) := ho; have HB1 : Hid (Below w.heap.size w w2) := BA.out.grown hg BA.out.size (fun j hj => (HOA.out.lt _ hj).1); clear ho hg hnn)
          go_roundw
          case rel => exact ⟨k + 1, o ++ [b], by omega, by rw [List.length_append, HN.out]; simp; omega, by first | rfl | go_num, by rw [List.length_append, HN.out, List.map_append]; exact HO1.out, HB1.out, HS2.out⟩
          case measure => simp [intOf]; omega
      · have HS2 : Hid (accL 20000 okl ((bs s).drop (k + 1)) o = R) := by have := HS.out; rw [if_neg hok] at this; exact this
        have hcs : (b ≠ 10 ∧ ¬ b ≥ 32) ∨ (b ≠ 10 ∧ b ≥ 32 ∧ ¬ b < 127) := by
          unfold okl at hok
          simp only [Bool.or_eq_true, Bool.and_eq_true, decide_eq_true_eq, beq_iff_eq] at hok
          omega
        clear hok HS
        rcases hcs with ⟨h1, h2⟩ | ⟨h1, h2, h3⟩
        · have g1 : (b == 10) = false := beq_eq_false_iff_ne.2 h1
          clear h1
          go_wp2
          go_roundw
          case rel => exact ⟨k + 1, o, by omega, by rw [HN.out]; exact hn64, by first | rfl | go_num, by rw [HN.out]; exact HO.out, HB.out, HS2.out⟩
          case measure => simp [intOf]; omega
        · have g1 : (b == 10) = false := beq_eq_false_iff_ne.2 h1
          clear h1
          go_wp2
          go_roundw
          case rel => exact ⟨k + 1, o, by omega, by rw [HN.out]; exact hn64, by first | rfl | go_num, by rw [HN.out]; exact HO.out, HB.out, HS2.out⟩
          case measure => simp [intOf]; omega
    · have HE : Hid (o = R) := by
        show _ = _
        rw [← HA.out]
        rcases Nat.lt_or_ge k s.size with c | c
        · rw [acc_full _ _ _ _ (by rw [HN.out]; intro e; exact hlt ⟨c, e⟩)]
        · obtain rfl : k = s.size := by omega
          rw [acc_end]
      have HOA : Hid ((wr.alloc (.cells #[.int .u8 10] 5)).ownsRow w.heap.size 5 1 (.slice oa n oc) n (o.map (Value.int .u8))) := HO.out.alloc _
      have BA : Hid (Below w.heap.size w (wr.alloc (.cells #[.int .u8 10] 5))) := HB.out.alloc HB.out.size _
      have hcs : (k : Int) < s.size ∧ ¬ (n : Int) < 20000 ∨ ¬ (k : Int) < s.size := by omega
      have HT : Hid (D = str (o ++ [10])) := by show _ = _; rw [HD.out, ← HE.out]
      have hlen : (o ++ [10]).length = n + 1 := by rw [List.length_append, HN.out]; rfl
      obtain ⟨T, HTT⟩ : ∃ T : ByteArray, Hid (str (o ++ [(10 : Int)]) = T) := ⟨_, rfl⟩
      rw [HTT.out] at HT
      clear hlt HA HE HD hgb
      rcases hcs with ⟨h1, h2⟩ | h1
      · go_wp2_with (at_builtin; refine wpList_append_own _ rfl _ _ 60 rfl w.heap.size 5 i0 (.int .u8 0) 1 1 Tryd.underlying60 HIN.out.1 HIN.out.2.1 HIN.out.2.2.1 HIN.out.2.2.2 rfl (by decide) (.slice oa n oc) n _ rfl HOA.out ⟨wr.heap.size, 0, none⟩ 1 1 [.int .u8 10] rfl rfl (new_text _ _ _) (one_b _) (by unfold maxLen; omega) (by omega) BA.out.size ?_; intro v1 w2 ho hg hnn; have HO1 : Hid (World.ownsRow _ _ _ _ _ _ _) := ho; have HB1 : Hid (Below w.heap.size w w2) := BA.out.grown hg BA.out.size (fun j hj => (HOA.out.lt _ hj).1); clear ho hg hnn; have cv : (convert 60 9 v1).run Tryd.prog w2 = .ok (.string T) w2 := (by rw [← HTT.out]; exact own_conv w2 w.heap.size v1 (o ++ [10]) (n + 1) hlen.symm (by rw [List.map_append]; exact HO1.out)))
        go_ret
        exact ⟨(by rw [HT.out]; try rfl), HB1.out⟩
      · go_wp2_with (at_builtin; refine wpList_append_own _ rfl _ _ 60 rfl w.heap.size 5 i0 (.int .u8 0) 1 1 Tryd.underlying60 HIN.out.1 HIN.out.2.1 HIN.out.2.2.1 HIN.out.2.2.2 rfl (by decide) (.slice oa n oc) n _ rfl HOA.out ⟨wr.heap.size, 0, none⟩ 1 1 [.int .u8 10] rfl rfl (new_text _ _ _) (one_b _) (by unfold maxLen; omega) (by omega) BA.out.size ?_; intro v1 w2 ho hg hnn; have HO1 : Hid (World.ownsRow _ _ _ _ _ _ _) := ho; have HB1 : Hid (Below w.heap.size w w2) := BA.out.grown hg BA.out.size (fun j hj => (HOA.out.lt _ hj).1); clear ho hg hnn; have cv : (convert 60 9 v1).run Tryd.prog w2 = .ok (.string T) w2 := (by rw [← HTT.out]; exact own_conv w2 w.heap.size v1 (o ++ [10]) (n + 1) hlen.symm (by rw [List.map_append]; exact HO1.out)))
        go_ret
        exact ⟨(by rw [HT.out]; try rfl), HB1.out⟩
end Go.Proofs.YtfkpfmaphjeakaaDoor.w4

namespace Go.Proofs.YtfkpfmaphjeakaaDoor.w5
open Go.RowKit Go.PlainAid
open Go.Proofs.YtfkpfmaphjeakaaDoor.mo Go.Proofs.YtfkpfmaphjeakaaDoor.nh Go.Proofs.YtfkpfmaphjeakaaDoor.tb Go.Proofs.YtfkpfmaphjeakaaDoor.tc Go.Proofs.YtfkpfmaphjeakaaDoor.tj Go.Proofs.YtfkpfmaphjeakaaDoor.n1 Go.Proofs.YtfkpfmaphjeakaaDoor.n3 Go.Proofs.YtfkpfmaphjeakaaDoor.n4 Go.Proofs.YtfkpfmaphjeakaaDoor.o1 Go.Proofs.YtfkpfmaphjeakaaDoor.o3 Go.Proofs.YtfkpfmaphjeakaaDoor.o5 Go.Proofs.YtfkpfmaphjeakaaDoor.o6 Go.Proofs.YtfkpfmaphjeakaaDoor.kp Go.Proofs.YtfkpfmaphjeakaaDoor.p2 Go.Proofs.YtfkpfmaphjeakaaDoor.v2 Go.Proofs.YtfkpfmaphjeakaaDoor.w1 Go.Proofs.YtfkpfmaphjeakaaDoor.w2 Go.Proofs.YtfkpfmaphjeakaaDoor.w3
set_option linter.unusedVariables false
set_option maxRecDepth 4000

-- the keys that sign
def firstB : ByteArray := ⟨#[102, 105, 114, 115, 116]⟩
def sB : ByteArray := ⟨#[115]⟩
def newN (o : List Ky) (x : ByteArray) : Bool := o.all (fun y => !eqB y.1 x)
def sgnF : List Ky → List Ky → List Ky
  | o, [] => o
  | o, k :: ks => if o.length < 8 then sgnF (if newN o (nmd k.1) = true then o ++ [(nmd k.1, k.2)] else o) ks else o
def sgn (ks : List Ky) : List Ky := sgnF [(firstB, sB)] ks
theorem sgn_step (ks : List Ky) (k : Nat) (h : k < ks.length) (o : List Ky) (hl : o.length < 8) : sgnF o (ks.drop k) = sgnF (if newN o (nmd (ks[k]'h).1) = true then o ++ [(nmd (ks[k]'h).1, (ks[k]'h).2)] else o) (ks.drop (k + 1)) := by
  rw [List.drop_eq_getElem_cons h, sgnF, if_pos hl]
theorem sgn_end (ks o : List Ky) : sgnF o (ks.drop ks.length) = o := by rw [List.drop_of_length_le (Nat.le_refl _), sgnF]
theorem sgn_full (ks o : List Ky) (h : ¬ o.length < 8) : sgnF o ks = o := by
  cases ks with
  | nil => rfl
  | cons k ks => rw [sgnF, if_neg h]
theorem new_iff {o : List Ky} {x : ByteArray} : newN o x = true ↔ ∀ y ∈ o, y.1 ≠ x := by
  unfold newN eqB
  simp
theorem new_snoc (l : List Ky) (y : Ky) (x : ByteArray) : newN (l ++ [y]) x = (newN l x && !eqB y.1 x) := by
  unfold newN
  rw [List.all_append]
  simp
theorem sgn_good : ∀ (ks o : List Ky), KGood o → 1 ≤ o.length → o.length ≤ 8 → KGood (sgnF o ks) ∧ 1 ≤ (sgnF o ks).length ∧ (sgnF o ks).length ≤ 8
  | [], o, h, h1, h8 => ⟨h, h1, h8⟩
  | k :: ks, o, h, h1, h8 => by
    rw [sgnF]
    split
    · rename_i hl
      split
      · rename_i hn
        refine sgn_good ks _ ⟨?_, fun y hy => ?_⟩ (by simp) (by simp; omega)
        · unfold Ds
          rw [List.pairwise_append]
          exact ⟨h.1, List.pairwise_singleton _ _, fun a ha b hb => by rw [List.mem_singleton.1 hb]; exact new_iff.1 hn a ha⟩
        · rcases List.mem_append.1 hy with hy | hy
          · exact h.2 y hy
          · rw [List.mem_singleton.1 hy]; exact nm_nmd _
      · exact sgn_good ks o h h1 h8
    · exact ⟨h, h1, h8⟩
theorem sgn_ok (ks : List Ky) : KGood (sgn ks) ∧ 1 ≤ (sgn ks).length ∧ (sgn ks).length ≤ 8 := by
  refine sgn_good ks _ ⟨List.pairwise_singleton _ _, fun k hk => ?_⟩ (by simp) (by simp)
  rw [List.mem_singleton.1 hk]
  show nm firstB = true
  decide +kernel
theorem sgn_bound (B : Nat) : ∀ (ks o : List Ky), (∀ k ∈ ks, k.2.size ≤ B) → (∀ k ∈ o, k.2.size ≤ B) → ∀ k ∈ sgnF o ks, k.2.size ≤ B
  | [], o, _, h => h
  | k :: ks, o, h1, h => by
    rw [sgnF]
    split
    · refine sgn_bound B ks _ (fun x hx => h1 x (by simp [hx])) (fun x hx => ?_)
      split at hx
      · rcases List.mem_append.1 hx with hx | hx
        · exact h x hx
        · rw [List.mem_singleton.1 hx]; exact h1 k (by simp)
      · exact h x hx
    · exact h
theorem sgn_sizes {ks : List Ky} (h : ∀ k ∈ ks, k.2.size ≤ 140737488351232) : ∀ k ∈ sgn ks, k.1.size ≤ 140737488351232 ∧ k.2.size ≤ 140737488351232 := by
  intro k hk
  have h1 := (sgn_ok ks).1.2 k hk
  have h2 := sgn_bound 140737488351232 ks [(firstB, sB)] h (fun x hx => by rw [List.mem_singleton.1 hx]; show sB.size ≤ _; decide) k hk
  have h3 := t5.nm_size h1
  omega
-- the box of a new key
def Xk (w wx : World) (g : Nat) (a b : ByteArray) : Prop := Below w.heap.size w wx ∧ w.heap.size ≤ g ∧ wx.heap[g]? = some (.cells #[.string a, .string b] 39 (0, 0))
theorem xk_alloc {w w' : World} {a b : ByteArray} (h : Below w.heap.size w w') : Xk w (w'.alloc (.cells #[.string a, .string b] 39)) w'.heap.size a b := ⟨h.alloc h.size _, h.size, heap_alloc_new _ _⟩
theorem xk_set {w w' : World} {a b x y : ByteArray} (h : Below w.heap.size w w') (hz : w'.heap[w.heap.size]? = some (.cells #[.string x, .string y] 39 (0, 0))) : Xk w ((w'.setCell ⟨w.heap.size, 0, none⟩ (.string a)).setCell ⟨w.heap.size, 1, none⟩ (.string b)) w.heap.size a b := by
  refine ⟨(h.setCell (p := ⟨w.heap.size, 0, none⟩) (Nat.le_refl _) _).setCell (p := ⟨w.heap.size, 1, none⟩) (Nat.le_refl _) _, Nat.le_refl _, ?_⟩
  have e := heap_setCell_same w' w.heap.size 0 _ _ (.string a) hz
  exact heap_setCell_same _ w.heap.size 1 _ _ (.string b) e
def Hb2 (w w' : World) : Prop := Below w.heap.size w w'
theorem Hb2.drew (w : World) : Hb2 w w.drew := Go.Proofs.YtfkpfmaphjeakaaDoor.tj.below_dN (Below.refl _ _) 1
theorem Hb2.alloc {w w' : World} (h : Hb2 w w') (o : Obj) : Hb2 w (w'.alloc o) := Below.alloc h h.size _
theorem Hb2.on {w w' w'' : World} (h : Hb2 w w') (hb : Below w'.heap.size w' w'') : Hb2 w w'' := Below.trans h (hb.mono (Below.size h))
theorem Hb2.set {w w' : World} (h : Hb2 w w') {b off : Nat} (hb : w.heap.size ≤ b) (x : Value) : Hb2 w (w'.setCell ⟨b, off, none⟩ x) := Below.setCell (p := ⟨b, off, none⟩) h hb x
theorem Hb2.cell {w w' : World} (h : Hb2 w w') {p : Addr} {v : Value} (hc : w.cell? p = some v) : w'.cell? p = some v := (Below.cell h (World.block_lt_of_cell? _ _ hc)).trans hc
set_option maxHeartbeats 6400000 in
theorem signersC (v : Value) (ks : List Ky) (w : World) (hr : ReadsY w v ks) (hz : ks.length ≤ 4398046511104) (hs : ∀ k ∈ ks, k.1.size ≤ 140737488351232 ∧ k.2.size ≤ 140737488351232) :
    Calls Tryd.prog 11 #[v] w fun e w' => (∃ v', e = .returned v' ∧ Lk w.heap.size v' (sgn ks) w') ∧ Below w.heap.size w w' := by
  obtain ⟨i0, hi0, hi1, hi2, hi3⟩ := info_parts infoY
  have HI : Hid (Tryd.prog.info? 39 = some i0 ∧ i0.zero = some (.agg #[.string ⟨#[]⟩, .string ⟨#[]⟩]) ∧ i0.size = 2 ∧ i0.bytes = 32) := ⟨hi0, hi1, hi2, hi3⟩
  clear hi0 hi1 hi2 hi3
  obtain ⟨a, c, rfl, _⟩ := id hr
  have HR : Hid (ReadsY w (.slice a ks.length c) ks) := hr
  have HS : Hid _ := hs
  obtain ⟨n, HN⟩ : ∃ n, Hid (ks.length = n) := ⟨_, rfl⟩
  obtain ⟨R, HRR⟩ : ∃ R, Hid (sgn ks = R) := ⟨_, rfl⟩
  have HR0 : Hid (sgnF [(firstB, sB)] (ks.drop 0) = R) := by show _ = _; rw [← HRR.out]; rfl
  have C1 : Hid (∀ s : ByteArray, s.size ≤ 140737488351232 → ∀ w, Calls _ _ _ _ _) := fun s h w => namedC s h w
  rw [HN.out] at hz ⊢
  rw [HRR.out]
  clear hr hs HRR
  have HL0 : Hid (Lk w.heap.size (.slice (some ⟨w.heap.size, 0, none⟩) 1 1) [(firstB, sB)] (w.alloc (.cells #[.string firstB, .string sB] 39))) := by
    refine ⟨rfl, .inr ⟨w.heap.size, 1, #[.string firstB, .string sB], rfl, Nat.le_refl _, heap_alloc_new _ _, Nat.le_refl _, by decide, rfl, rfl⟩⟩
  have HB0 : Hid (Below w.heap.size w (w.alloc (.cells #[.string firstB, .string sB] 39))) := (Below.refl _ _).alloc (Nat.le_refl _) _
  go_enter Tryd.func11, Tryd.ntmps11
  go_wp2
  go_loopw [3, 4] (fun ov iv wr => ∃ (k : Nat) (o : List Ky), k ≤ n ∧ 1 ≤ o.length ∧ o.length ≤ 8 ∧ iv = .int .i64 k ∧ Hid (Lk w.heap.size ov o wr ∧ Below w.heap.size w wr ∧ sgnF o (ks.drop k) = R)) (fun _ iv _ => (n - intOf iv).toNat)
  case atStart => exact ⟨0, [(firstB, sB)], by omega, by simp, by simp, rfl, HL0.out, HB0.out, HR0.out⟩
  case round =>
    obtain ⟨k, o, hk, hl1, hl8, rfl, HH⟩ := hrel
    obtain ⟨oa, oc, hv⟩ := own_form HH.out.1
    subst hv
    obtain ⟨m, HM⟩ : ∃ m, Hid (o.length = m) := ⟨_, rfl⟩
    have HO : Hid (wr.ownsRow w.heap.size 39 2 (.slice oa m oc) m (kcs o)) := by have := HH.out.1; unfold Lk at this; rw [HM.out] at this; exact this
    have HB : Hid (Below w.heap.size w wr) := HH.out.2.1
    have HA : Hid (sgnF o (ks.drop k) = R) := HH.out.2.2
    have hm1 : 1 ≤ m := by rw [← HM.out]; exact hl1
    have hm8 : m ≤ 8 := by rw [← HM.out]; exact hl8
    rw [HM.out]
    clear HH hl1 hl8
    by_cases hlt : k < n ∧ m < 8
    · obtain ⟨hlt, hm⟩ := hlt
      have hlt' : (k : Int) < n := by omega
      have hm' : (m : Int) < 8 := by omega
      have hkl : k < ks.length := by rw [HN.out]; exact hlt
      obtain ⟨y, HY⟩ : ∃ y, Hid (ks[k]'hkl = y) := ⟨_, rfl⟩
      have HT : Hid (sgnF (if newN o (nmd y.1) = true then o ++ [(nmd y.1, y.2)] else o) (ks.drop (k + 1)) = R) := by
        show _ = _
        rw [← HA.out, sgn_step ks k hkl o (by rw [HM.out]; exact hm), HY.out]
      have hyz : y.1.size ≤ 140737488351232 ∧ y.2.size ≤ 140737488351232 := by rw [← HY.out]; exact HS.out _ (List.getElem_mem hkl)
      obtain ⟨b, off, ha, hbw, c1, c2⟩ := (HR.out.later HB.out).at k y (by rw [List.getElem?_eq_getElem hkl, HY.out])
      subst ha
      obtain ⟨kn, kx⟩ := y
      simp only at c1 c2 hyz HT
      have C2 : Hid (∀ w, Calls _ _ _ _ _) := C1.out kn hyz.1
      obtain ⟨N, HNN⟩ : ∃ N, Hid (nmd kn = N) := ⟨_, rfl⟩
      rw [HNN.out] at C2 HT
      have hNz : N.size ≤ 140737488351232 := by rw [← HNN.out]; have := t5.nm_size (nm_nmd kn); omega
      have S4 : Hid (∀ w', Hb2 wr w' → Hb2 wr w' ∧ w'.cell? ⟨b, off + k * 2, none⟩ = some (.string kn) ∧ w'.cell? ⟨b, off + k * 2 + 1, none⟩ = some (.string kx)) := fun w' h => ⟨h, h.cell c1, h.cell c2⟩
      clear HA HNN
      go_upto_region 5 with fail
      go_cut [5] from 10 to 54 (fun cc wx => ∃ g, cc = .pointer (some ⟨g, 0, none⟩) ∧ Hid (Xk wr wx g N kx))
      case first =>
        go_region_held3 (fun w' => Hb2 wr w' ∧ w'.cell? ⟨b, off + k * 2, none⟩ = some (.string kn) ∧ w'.cell? ⟨b, off + k * 2 + 1, none⟩ = some (.string kx)) (first | exact S4.out _ (Hb2.drew _) | exact S4.out _ (Hb2.alloc (And.left (by assumption)) _) | exact S4.out _ (Hb2.on (And.left (by assumption)) hb') | exact S4.out _ (Hb2.alloc HW.out _) | exact S4.out _ (Hb2.set (Hb2.set HW.out (Nat.le_refl _) _) (Nat.le_refl _) _)) ((go_at_call 31; refine (C2.out _).mono ?_; rintro e w' ⟨rfl, hb'⟩; have HW : Hid (Hb2 wr w') := Hb2.on (And.left (by assumption)) hb'; try (have Z0 : w'.heap[wr.heap.size]? = some (.cells #[.string ⟨#[]⟩, .string ⟨#[]⟩] 39 (0, 0)) := (hb'.block wr.heap.size (by simp)).trans (heap_alloc_new wr.drew _); have z0 := cell_of_row _ _ 0 _ _ _ Z0; have z1 := cell_of_row _ _ 1 _ _ _ Z0; have f0 := frozen_of_row w' wr.heap.size 0 _ _ Z0; have f1 := frozen_of_row w' wr.heap.size 1 _ _ Z0; have HZ0 : Hid (w'.heap[wr.heap.size]? = some (.cells #[.string ⟨#[]⟩, .string ⟨#[]⟩] 39 (0, 0))) := Z0; clear Z0)))
        all_goals
          go_wp2
          go_meet
          first
          | exact ⟨_, rfl, xk_alloc HW.out⟩
          | exact ⟨_, rfl, xk_set HW.out HZ0.out⟩
      case rest =>
        obtain ⟨g, rfl, HX⟩ := hcut
        have HG : Hid (wc.heap[g]? = some (.cells #[.string N, .string kx] 39 (0, 0))) := HX.out.2.2
        have BX : Hid (Below wr.heap.size wr wc) := HX.out.1
        have HOc : Hid (wc.ownsRow w.heap.size 39 2 (.slice oa m oc) m (kcs o)) := own_kp HO.out (Kp.of_below (A := fun _ => False) BX.out) (fun _ _ e => e)
        have BWc : Hid (Below w.heap.size w wc) := HB.out.trans (BX.out.mono HB.out.size)
        obtain ⟨ob, rfl⟩ : ∃ ob, oa = some ⟨ob, 0, none⟩ := by
          rcases HOc.out.2 with ⟨e, h0⟩ | ⟨g', cap, cur, e, _⟩
          · omega
          · injection e with e1 _ _
            exact ⟨g', e1⟩
        have HLK : Hid (Lk w.heap.size (.slice (some ⟨ob, 0, none⟩) m oc) o wc) := by show _; unfold Lk; rw [HM.out]; exact HOc.out
        have hmc : m ≤ oc := by have := HLK.out.cells.2.1; rw [HM.out] at this; exact this
        have HOB : Hid (ob < wc.heap.size ∧ g < wc.heap.size) := ⟨HLK.out.cells.2.2.1, (Array.getElem?_eq_some_iff.1 HG.out).1⟩
        have HCE : Hid (∀ wi, Below wc.heap.size wc wi → (∀ (j : Nat) (p : Ky), o[j]? = some p → wi.cell? ⟨ob, j * 2, none⟩ = some (.string p.1)) ∧ wi.cell? ⟨g, 0, none⟩ = some (.string N) ∧ wi.cell? ⟨g, 1, none⟩ = some (.string kx)) := fun wi h => ⟨fun j p hj => (h.cell (p := ⟨ob, j * 2, none⟩) HOB.out.1).trans (HLK.out.cells.2.2.2.2.2 j p hj).1, by rw [h.cell (p := ⟨g, 0, none⟩) HOB.out.2, cell_of_row _ _ 0 _ _ _ HG.out]; rfl, by rw [h.cell (p := ⟨g, 1, none⟩) HOB.out.2, cell_of_row _ _ 1 _ _ _ HG.out]; rfl⟩
        clear HX S4 c1 c2 C2 HO
        go_wp2
        go_loopw [6, 7] (fun okv jv wi => ∃ (j : Nat), j ≤ m ∧ jv = .int .i64 j ∧ okv = .bool (newN (o.take j) N) ∧ Hid (Below wc.heap.size wc wi)) (fun _ jv _ => (m - intOf jv).toNat)
        case atStart => exact ⟨0, by omega, rfl, rfl, Below.refl _ _⟩
        case round =>
          obtain ⟨j, hj, rfl, rfl, HBI⟩ := hrel
          obtain ⟨wi, rfl⟩ : ∃ v, v = wr := ⟨_, rfl⟩
          obtain ⟨hcj, cn, cx⟩ := HCE.out wi HBI.out
          by_cases hjm : j < m
          · have hjm' : (j : Int) < m := by omega
            have hjl : j < o.length := by rw [HM.out]; exact hjm
            obtain ⟨z, HZ⟩ : ∃ z, Hid (o[j]'hjl = z) := ⟨_, rfl⟩
            have e1 := hcj j z (by rw [List.getElem?_eq_getElem hjl, HZ.out])
            have HNS : Hid (newN (o.take (j + 1)) N = (newN (o.take j) N && !eqB z.1 N)) := by show _ = _; rw [List.take_succ_eq_append_getElem hjl, new_snoc, HZ.out]
            have KN : Hid (∀ n, Below wc.heap.size wc (wi.drewN n)) := fun n => Go.Proofs.YtfkpfmaphjeakaaDoor.tj.below_dN HBI.out n
            have hjc : (j : Int) < oc := by omega
            have hq : (z.1.toList == N.toList) = eqB z.1 N := toList_eqB _ _
            generalize newN (o.take j) N = B at *
            generalize eqB z.1 N = q at *
            clear hcj
            cases B
            · have HB2 : Hid (newN (o.take (j + 1)) N = false) := by show _ = _; rw [HNS.out]; rfl
              go_wp2_with fail
              go_quiet (fail)
              go_wp2
              go_roundw
              case rel => exact ⟨j + 1, by omega, by first | rfl | go_num, (by rw [HB2.out]), KN.out _⟩
              case measure => simp [intOf]; omega
            · have HB2 : Hid (newN (o.take (j + 1)) N = !q) := by show _ = _; rw [HNS.out]; rfl
              cases q
              · go_wp2_with fail
                go_quiet (fail)
                go_wp2
                go_roundw
                case rel => exact ⟨j + 1, by omega, by first | rfl | go_num, (by rw [HB2.out]; try rfl), KN.out _⟩
                case measure => simp [intOf]; omega
              · go_wp2_with fail
                go_quiet (fail)
                go_wp2
                go_roundw
                case rel => exact ⟨j + 1, by omega, by first | rfl | go_num, (by rw [HB2.out]; try rfl), KN.out _⟩
                case measure => simp [intOf]; omega
          · have hjm' : ¬ (j : Int) < m := by omega
            have HTK : Hid (newN (o.take j) N = newN o N) := by show _ = _; rw [List.take_of_length_le (by rw [HM.out]; omega)]
            rw [HTK.out]
            have BWi : Hid (Below w.heap.size w wi) := BWc.out.trans (HBI.out.mono BWc.out.size)
            obtain ⟨B, HBB⟩ : ∃ B, Hid (newN o N = B) := ⟨_, rfl⟩
            rw [HBB.out] at HT ⊢
            have HOi : Hid (wi.ownsRow w.heap.size 39 2 (.slice (some ⟨ob, 0, none⟩) m oc) m (kcs o)) := own_kp HOc.out (Kp.of_below (A := fun _ => False) HBI.out) (fun _ _ e => e)
            clear hcj HTK HBB
            cases B
            · have HT2 : Hid (sgnF o (ks.drop (k + 1)) = R) := by have := HT.out; rw [if_neg (by decide)] at this; exact this
              go_wp2
              go_roundw
              case rel => exact ⟨k + 1, o, by omega, by rw [HM.out]; exact hm1, by rw [HM.out]; exact hm8, by first | rfl | go_num, by unfold Lk; rw [HM.out]; exact HOi.out, BWi.out, HT2.out⟩
              case measure => simp [intOf]; omega
            · have HT2 : Hid (sgnF (o ++ [(N, kx)]) (ks.drop (k + 1)) = R) := by have := HT.out; rw [if_pos rfl] at this; exact this
              have HOA : Hid ((wi.alloc (.cells #[.string N, .string kx] 39)).ownsRow w.heap.size 39 2 (.slice (some ⟨ob, 0, none⟩) m oc) m (kcs o)) := HOi.out.alloc _
              have BA : Hid (Below w.heap.size w (wi.alloc (.cells #[.string N, .string kx] 39))) := BWi.out.alloc BWi.out.size _
              go_wp2_with (at_builtin; refine wpList_append_own _ rfl _ _ 33 rfl w.heap.size 39 i0 (.agg #[.string ⟨#[]⟩, .string ⟨#[]⟩]) 2 32 Tryd.underlying33 HI.out.1 HI.out.2.1 HI.out.2.2.1 HI.out.2.2.2 rfl (by decide) (.slice (some ⟨ob, 0, none⟩) m oc) m _ rfl HOA.out ⟨wi.heap.size, 0, none⟩ 1 1 [.string N, .string kx] rfl rfl (new_two _ _ _ _) (one_two _ _) (by unfold maxLen; omega) (by omega) BA.out.size ?_; intro v2 w2 hown2 hgr2 hnn2; have F2 : Hid (World.ownsRow _ _ _ _ _ _ _) := hown2; have B2 : Hid (Below w.heap.size w w2) := BA.out.grown hgr2 BA.out.size (fun j hj => (HOA.out.lt _ hj).1); clear hown2 hgr2 hnn2)
              go_roundw
              case rel => exact ⟨k + 1, o ++ [(N, kx)], by omega, by simp, by rw [List.length_append, HM.out]; simp; omega, by first | rfl | go_num, by unfold Lk; rw [List.length_append, HM.out, kcs_app]; exact F2.out, B2.out, HT2.out⟩
              case measure => simp [intOf]; omega
    · have HE : Hid (o = R) := by
        show _ = _
        rw [← HA.out]
        rcases Nat.lt_or_ge k n with cc | cc
        · rw [sgn_full _ _ (by rw [HM.out]; intro e; exact hlt ⟨cc, e⟩)]
        · have : k = ks.length := by rw [HN.out]; omega
          rw [this, sgn_end]
      have hcs : (k : Int) < n ∧ ¬ (m : Int) < 8 ∨ ¬ (k : Int) < n := by omega
      have FIN : Hid (Lk w.heap.size (.slice oa m oc) R wr) := by rw [← HE.out]; unfold Lk; rw [HM.out]; exact HO.out
      clear hlt HA HE
      rcases hcs with ⟨h1, h2⟩ | h1
      · go_wp2
        go_ret
        exact ⟨⟨_, rfl, FIN.out⟩, HB.out⟩
      · go_wp2
        go_ret
        exact ⟨⟨_, rfl, FIN.out⟩, HB.out⟩
end Go.Proofs.YtfkpfmaphjeakaaDoor.w5

namespace Go.Proofs.YtfkpfmaphjeakaaDoor.w6
open Go.RowKit Go.PlainAid
open Go.Proofs.YtfkpfmaphjeakaaDoor.pj Go.Proofs.YtfkpfmaphjeakaaDoor.mo Go.Proofs.YtfkpfmaphjeakaaDoor.nd Go.Proofs.YtfkpfmaphjeakaaDoor.nh Go.Proofs.YtfkpfmaphjeakaaDoor.tb Go.Proofs.YtfkpfmaphjeakaaDoor.tc Go.Proofs.YtfkpfmaphjeakaaDoor.tj Go.Proofs.YtfkpfmaphjeakaaDoor.n3 Go.Proofs.YtfkpfmaphjeakaaDoor.n4 Go.Proofs.YtfkpfmaphjeakaaDoor.o1 Go.Proofs.YtfkpfmaphjeakaaDoor.o5 Go.Proofs.YtfkpfmaphjeakaaDoor.o6 Go.Proofs.YtfkpfmaphjeakaaDoor.kp Go.Proofs.YtfkpfmaphjeakaaDoor.p2 Go.Proofs.YtfkpfmaphjeakaaDoor.w2
set_option linter.unusedVariables false
set_option maxRecDepth 4000

set_option maxHeartbeats 6400000 in
theorem sigsC (v : Value) (t : ByteArray) (l : List Ky) (w : World) (hr : ReadsY w v l) (hz : l.length ≤ 1000) (hb : t.size ≤ 140737488351232) (hs : ∀ k ∈ l, k.1.size ≤ 140737488351232 ∧ k.2.size ≤ 140737488351232) (T : Hid (Tab w)) :
    Calls Tryd.prog 16 #[v, .string t] w fun e w' => (∃ a c, e = .returned (.slice a l.length c) ∧ Lg w.heap.size (.slice a l.length c) (sgs t l) w') ∧ Below w.heap.size w w' := by
  obtain ⟨i0, hi0, hi1, hi2, hi3⟩ := info_parts infoG
  have HI : Hid (Tryd.prog.info? 53 = some i0 ∧ i0.zero = some (.agg #[.string ⟨#[]⟩, .string ⟨#[]⟩, .string ⟨#[]⟩]) ∧ i0.size = 3 ∧ i0.bytes = 48) := ⟨hi0, hi1, hi2, hi3⟩
  clear hi0 hi1 hi2 hi3
  obtain ⟨a, c, rfl, _⟩ := id hr
  have HR : Hid (ReadsY w (.slice a l.length c) l) := hr
  have HS : Hid _ := hs
  obtain ⟨n, HN⟩ : ∃ n, Hid (l.length = n) := ⟨_, rfl⟩
  rw [HN.out] at hz ⊢
  clear hr hs
  go_enter Tryd.func16, Tryd.ntmps16
  go_wp2
  go_loopw [5, 6] (fun ov iv wr => ∃ (k : Nat) (oa : Option Addr) (oc : Nat), k ≤ n ∧ iv = .int .i64 k ∧ ov = .slice oa k oc ∧ Hid (Lg w.heap.size (.slice oa k oc) (sgs t (l.take k)) wr ∧ Below w.heap.size w wr)) (fun _ iv _ => (n - intOf iv).toNat)
  case atStart => exact ⟨0, none, 0, by omega, rfl, rfl, Lg.nil _ _, Below.refl _ _⟩
  case round =>
    obtain ⟨k, oa, oc, hk, rfl, rfl, HH⟩ := hrel
    have HLM : Hid ((sgs t (l.take k)).length = k) := by show _ = _; rw [List.length_map, List.length_take, HN.out]; omega
    have HO : Hid (wr.ownsRow w.heap.size 53 3 (.slice oa k oc) k (gcs (sgs t (l.take k)))) := by have := HH.out.1; unfold Lg at this; rw [HLM.out] at this; exact this
    have HB : Hid (Below w.heap.size w wr) := HH.out.2
    by_cases hlt : k < n
    · have hlt' : (k : Int) < n := by omega
      have hkl : k < l.length := by rw [HN.out]; exact hlt
      obtain ⟨y, HY⟩ : ∃ y, Hid (l[k]'hkl = y) := ⟨_, rfl⟩
      have HSN : Hid (sgs t (l.take (k + 1)) = sgs t (l.take k) ++ [sigOf y t]) := by
        show _ = _
        rw [List.take_succ_eq_append_getElem hkl, sgs_snoc, HY.out]
      have hyz : y.1.size ≤ 140737488351232 ∧ y.2.size ≤ 140737488351232 := by rw [← HY.out]; exact HS.out _ (List.getElem_mem hkl)
      obtain ⟨b, off, ha, hbw, c1, c2⟩ := HR.out.at k y (by rw [List.getElem?_eq_getElem hkl, HY.out])
      subst ha
      obtain ⟨kn, kx⟩ := y
      simp only at c1 c2 hyz
      have C1 : Hid (∀ w, Tab w → Calls _ _ _ _ _) := fun w T => keyID kn kx w hyz.1 hyz.2 T
      have C2 : Hid (∀ w, Tab w → Calls _ _ _ _ _) := fun w T => macSum kx t w (by omega) (by omega) T
      have HSG : Hid (gcs [sigOf (kn, kx) t] = [.string kn, .string (kidF kn kx), .string (macF kx t)]) := rfl
      obtain ⟨x, HX⟩ : ∃ x, Hid (kidF kn kx = x) := ⟨_, rfl⟩
      obtain ⟨z, HZ⟩ : ∃ z, Hid (macF kx t = z) := ⟨_, rfl⟩
      rw [HX.out] at C1 HSG
      rw [HZ.out] at C2 HSG
      have SX : Hid (∀ w', Below w.heap.size w w' → w'.cell? ⟨b, off + k * 2, none⟩ = some (.string kn) ∧ w'.cell? ⟨b, off + k * 2 + 1, none⟩ = some (.string kx)) := fun w' h => ⟨(h.cell (p := ⟨b, off + k * 2, none⟩) hbw).trans c1, (h.cell (p := ⟨b, off + k * 2 + 1, none⟩) hbw).trans c2⟩
      have DW : Hid (∀ w', Below wr.heap.size wr w' → Below w.heap.size w w') := fun w' h => HB.out.trans (h.mono HB.out.size)
      have D0 : Hid (Below wr.heap.size wr wr.drew) := Go.Proofs.YtfkpfmaphjeakaaDoor.tj.below_dN (Below.refl _ _) 1
      have TT : Hid (∀ w', Below w.heap.size w w' → Tab w') := fun w' h => T.out.down h
      have hn1 : (k + 1) * 48 ≤ 140737488355328 := by omega
      obtain ⟨d1, d2⟩ := SX.out wr HB.out
      clear HX HZ c1 c2
      go_wp2_with fail
      go_region_held_law (fun w' => w'.cell? ⟨b, off + k * 2, none⟩ = some (.string kn) ∧ w'.cell? ⟨b, off + k * 2 + 1, none⟩ = some (.string kx)) (first | exact SX.out _ (DW.out _ D0.out) | exact SX.out _ (DW.out _ D1.out) | exact SX.out _ (DW.out _ D2.out) | exact SX.out _ (DW.out _ D3.out) | exact SX.out _ B7.out) ((first | (go_at_call 47; refine (C1.out _ (TT.out _ (DW.out _ D0.out))).mono ?_; rintro _ w1 ⟨rfl, k1⟩; have D1 : Hid (Below wr.heap.size wr w1) := (D0.out.trans (k1.mono D0.out.size)); clear k1) | (go_at_call 46; refine (C2.out _ (TT.out _ (DW.out _ D1.out))).mono ?_; rintro _ w2 ⟨rfl, k2⟩; have D2 : Hid (Below wr.heap.size wr w2) := (D1.out.trans (k2.mono D1.out.size)); clear k2; have D3 : Hid (Below wr.heap.size wr (w2.alloc (.cells #[.string kn, .string x, .string z] 53))) := D2.out.alloc D2.out.size _; have O4 : Hid ((w2.alloc (.cells #[.string kn, .string x, .string z] 53)).ownsRow w.heap.size 53 3 (.slice oa k oc) k (gcs (sgs t (l.take k)))) := own_kp HO.out (Kp.of_below (A := fun _ => False) D3.out) (fun _ _ e => e)) | (have zz := O4.out; refine step_append_lies _ (by rfl) (.tmp 13) (.tmp 38) 41 (by rfl) w.heap.size 53 i0 (.agg #[.string ⟨#[]⟩, .string ⟨#[]⟩, .string ⟨#[]⟩]) 3 48 Tryd.underlying41 HI.out.1 HI.out.2.1 HI.out.2.2.1 HI.out.2.2.2 rfl (by decide) (.slice oa k oc) k _ (by simp [Act.eval]) O4.out ⟨w2.heap.size, 0, none⟩ 1 1 [.string kn, .string x, .string z] (by simp [Act.eval]) rfl (new_three w2 _ _ _ _) (one_three _ _ _) (by omega) (by unfold maxLen; omega) hn1 ((DW.out _ D3.out).size) _ rfl ?_; intro g6 c6 w7 ho7 hg7 hl7 hlt7; have O7 : Hid (w7.ownsRow w.heap.size 53 3 (.slice (some ⟨g6, 0, none⟩) (k + 1) c6) (k + 1) (gcs (sgs t (l.take k)) ++ [.string kn, .string x, .string z])) := ho7; have B7 : Hid (Below w.heap.size w w7) := (DW.out _ D3.out).grown hg7 (DW.out _ D3.out).size (fun j hj => (O4.out.lt _ hj).1); clear ho7 hg7 hl7 hlt7 zz)))
      all_goals (
        go_wp2
        go_roundw
        case rel =>
          refine ⟨k + 1, _, _, by omega, by go_num, rfl, ?_, B7.out⟩
          rw [HSN.out]
          unfold Lg
          rw [List.length_append, HLM.out, gcs_app, HSG.out]
          exact O7.out
        case measure => simp [intOf]; omega)
    · have hlt' : ¬ (k : Int) < n := by omega
      obtain rfl : k = n := by omega
      have HE : Hid (Lg w.heap.size (.slice oa k oc) (sgs t l) wr) := by
        have := HH.out.1
        rw [List.take_of_length_le (by rw [HN.out]; exact Nat.le_refl _)] at this
        exact this
      clear HO HLM HH
      go_wp2
      go_ret
      exact ⟨⟨_, _, rfl, HE.out⟩, HB.out⟩
end Go.Proofs.YtfkpfmaphjeakaaDoor.w6

namespace Go.Proofs.YtfkpfmaphjeakaaDoor.w7
open Go.RowKit Go.PlainAid Go.Shelf
open Go.Proofs.YtfkpfmaphjeakaaDoor.pj Go.Proofs.YtfkpfmaphjeakaaDoor.mo Go.Proofs.YtfkpfmaphjeakaaDoor.nd Go.Proofs.YtfkpfmaphjeakaaDoor.nh Go.Proofs.YtfkpfmaphjeakaaDoor.tb Go.Proofs.YtfkpfmaphjeakaaDoor.tc Go.Proofs.YtfkpfmaphjeakaaDoor.tj Go.Proofs.YtfkpfmaphjeakaaDoor.n3 Go.Proofs.YtfkpfmaphjeakaaDoor.n4 Go.Proofs.YtfkpfmaphjeakaaDoor.o1 Go.Proofs.YtfkpfmaphjeakaaDoor.o3 Go.Proofs.YtfkpfmaphjeakaaDoor.o5 Go.Proofs.YtfkpfmaphjeakaaDoor.o6 Go.Proofs.YtfkpfmaphjeakaaDoor.o7 Go.Proofs.YtfkpfmaphjeakaaDoor.kp Go.Proofs.YtfkpfmaphjeakaaDoor.p2 Go.Proofs.YtfkpfmaphjeakaaDoor.q2 Go.Proofs.YtfkpfmaphjeakaaDoor.r1 Go.Proofs.YtfkpfmaphjeakaaDoor.v4 Go.Proofs.YtfkpfmaphjeakaaDoor.v8 Go.Proofs.YtfkpfmaphjeakaaDoor.w2 Go.Proofs.YtfkpfmaphjeakaaDoor.w3 Go.Proofs.YtfkpfmaphjeakaaDoor.w5
set_option linter.unusedVariables false
set_option maxRecDepth 4000

-- owned keys are read
theorem lk_reads {B : Nat} {a : Option Addr} {n c : Nat} {r : List Ky} {w : World} (o : Lk B (.slice a n c) r w) (hn : r.length = n) : ReadsY w (.slice a n c) r := by
  subst hn
  rcases id o.2 with ⟨e, h0⟩ | ⟨g, cap, cur, e, _⟩
  · injection e with e1 e2 e3
    subst e1 e3
    exact ⟨none, 0, rfl, by omega, fun _ => rfl, .inl h0⟩
  · injection e with e1 e2 e3
    subst e1 e3
    obtain ⟨h1, h2, h3, h4, h5, h6⟩ := o.cells
    exact ⟨_, c, rfl, h2, (fun e => by cases e), .inr ⟨g, 0, rfl, fun i p hi => by rw [Nat.zero_add]; exact h6 i p hi⟩⟩
theorem lk_later {B : Nat} {v : Value} {r : List Ky} {w w' : World} (h : Lk B v r w) (b : Below w.heap.size w w') : Lk B v r w' := own_kp h (Kp.of_below (A := fun _ => False) b) (fun _ _ e => e)
theorem reads_take {w : World} {a : Option Addr} {c m : Nat} {l : List Ky} (h : ReadsY w (.slice a m c) l) (n : Nat) (hn : n ≤ l.length) : ReadsY w (.slice a n c) (l.take n) := by
  obtain ⟨a', c', e, h1, h2, h0⟩ := h
  injection e with e1 e2 e3
  subst e1 e3
  have hl : (l.take n).length = n := by rw [List.length_take]; omega
  refine ⟨a, c, by rw [hl], by rw [hl]; omega, h2, ?_⟩
  rcases h0 with h0 | ⟨b, off, rfl, hh⟩
  · exact .inl (by rw [hl]; omega)
  · refine .inr ⟨b, off, rfl, fun i st hi => hh i st ?_⟩
    have := (List.getElem?_eq_some_iff.1 hi).1
    rw [hl] at this
    rwa [List.getElem?_take_of_lt this] at hi
-- two rows of keys side by side
structure TwK (B : Nat) (a b : List Ky) (av bv : Value) (w : World) : Prop where
  x : Lk B av a w
  y : Lk B bv b w
  ap : ∀ j, av.ownBlock = some j → bv.ownBlock ≠ some j
theorem TwK.later {B : Nat} {a b : List Ky} {av bv : Value} {w w' : World} (h : TwK B a b av bv w) (k : Below w.heap.size w w') : TwK B a b av bv w' := ⟨lk_later h.x k, lk_later h.y k, h.ap⟩
theorem TwK.swap {B : Nat} {a b : List Ky} {av bv : Value} {w : World} (h : TwK B a b av bv w) : TwK B b a bv av w := ⟨h.y, h.x, fun j h1 h2 => h.ap j h2 h1⟩
theorem TwK.addX {B : Nat} {a b a' : List Ky} {av bv v : Value} {w w' : World} (h : TwK B a b av bv w) (hn : Lk B v a' w') (hg : w.grownBy w' av.ownBlock) (hv : v.ownBlock = av.ownBlock ∨ v.ownBlock = some w.heap.size) : TwK B a' b v bv w' := by
  refine ⟨hn, ?_, fun j h1 h2 => ?_⟩
  · refine World.ownsRow.kept h.y hg ?_
    cases hb : bv.ownBlock with
    | none => exact .inl rfl
    | some j => exact .inr (fun e => h.ap j e.symm hb)
  · rcases hv with e | e
    · exact h.ap j (by rw [← e]; exact h1) h2
    · rw [e] at h1
      have := (own_in h.y h2).2
      have := Option.some.inj h1
      omega
theorem TwK.nil (B : Nat) (w : World) : TwK B [] [] (.slice none 0 0) (.slice none 0 0) w := ⟨World.ownsRow_nil _ _ _ _, World.ownsRow_nil _ _ _ _, fun j h => by cases h⟩
-- the last three bits
theorem and7 (x : Int) : ∃ q : Nat, q ≤ 7 ∧ bits .and .i64 x 7 = (q : Int) := by
  have hx : (BitVec.ofInt 64 x).toNat &&& 7 ≤ 7 := Nat.and_le_right
  have h7 : (BitVec.ofInt 64 (7 : Int)).toNat = 7 := by decide
  refine ⟨(BitVec.ofInt 64 x).toNat &&& 7, hx, ?_⟩
  show IntKind.i64.wrap ((BitVec.ofInt 64 x &&& BitVec.ofInt 64 (7 : Int)).toNat : Int) = _
  rw [BitVec.toNat_and, h7, IntKind.wrap_i64]
  generalize (BitVec.ofInt 64 x).toNat &&& 7 = z at *
  omega
-- the calls of the law, over a note of one's own
theorem sign1 (t : ByteArray) (l : List Ky) (hg : goesB t = true) (h : KGood l) (h0 : l.length ≠ 0) (h8 : l.length ≤ 8) (ht : t.size ≤ 20001) (hs : ∀ k ∈ l, k.1.size ≤ 140737488351232 ∧ k.2.size ≤ 140737488351232) (v : Value) (w : World) (hr : ReadsY w v l) (T : Hid (Tab w)) :
    Calls Tryd.prog 12 #[.string t, v] w fun e w' => e = .returned (.tuple #[.string (noteOf t (sgs t l)), .int .i64 0]) ∧ Below w.heap.size w w' := by
  rw [← sign_note t l hg h h0 h8 ht (tg_good h)]
  exact signC v t l w hr (by omega) (by omega) hs T
theorem add1 (t : ByteArray) (l : List Ky) (k : Ky) (hg : goesB t = true) (h : KGood (l ++ [k])) (h0 : l.length ≠ 0) (h8 : l.length < 8) (ht : t.size ≤ 20001) (hs : k.1.size ≤ 140737488351232 ∧ k.2.size ≤ 140737488351232) (w : World) (T : Hid (Tab w)) :
    Calls Tryd.prog 13 #[.string (noteOf t (sgs t l)), .agg #[.string k.1, .string k.2]] w fun e w' => e = .returned (.tuple #[.string (noteOf t (sgs t (l ++ [k]))), .int .i64 0]) ∧ Below w.heap.size w w' := by
  obtain ⟨RL, hG, _⟩ := gives_ex (noteOf t (sgs t l))
  have hl : KGood l := by have := good_take h l.length; rwa [List.take_left'] at this; rfl
  have hz := Go.Proofs.YtfkpfmaphjeakaaDoor.w2.note_size t l hl (by omega) ht
  have := addC (noteOf t (sgs t l)) k.1 k.2 (by omega) hs.1 hs.2 RL hG w T
  rw [add_new t l k hg h h0 h8 ht RL hG] at this
  exact this
theorem add2 (t : ByteArray) (l : List Ky) (k : Ky) (hg : goesB t = true) (h : KGood l) (h8 : l.length ≤ 8) (ht : t.size ≤ 20001) (hk : k ∈ l) (hs : k.1.size ≤ 140737488351232 ∧ k.2.size ≤ 140737488351232) (w : World) (T : Hid (Tab w)) :
    Calls Tryd.prog 13 #[.string (noteOf t (sgs t l)), .agg #[.string k.1, .string k.2]] w fun e w' => e = .returned (.tuple #[.string (noteOf t (sgs t l)), .int .i64 0]) ∧ Below w.heap.size w w' := by
  obtain ⟨RL, hG, _⟩ := gives_ex (noteOf t (sgs t l))
  have hz := Go.Proofs.YtfkpfmaphjeakaaDoor.w2.note_size t l h h8 ht
  have := addC (noteOf t (sgs t l)) k.1 k.2 (by omega) hs.1 hs.2 RL hG w T
  rw [add_old t l k hg h h8 ht hk RL hG] at this
  exact this
theorem pick_sub (b : Nat → Bool) {l : List Ky} : ∀ k ∈ pick b 0 l, k ∈ l := fun k hk => by
  obtain ⟨j, hj, h, _⟩ := (pick_mem b l 0 k).1 hk
  rw [← h]
  exact List.getElem_mem hj
-- what Open answers to who knows some of the keys
def OpM (B0 : Nat) (w' : World) (t : ByteArray) (go re : List Sg) (ng nr : Nat) (E : Int) (e : Ending) : Prop := ∃ ga gc ra rc, e = .returned (.tuple #[.agg #[.string t, .slice ga ng gc, .slice ra nr rc], .int .i64 E]) ∧ ReadsG w' (.slice ga ng gc) go ∧ ReadsG w' (.slice ra nr rc) re
theorem open1 (t : ByteArray) (l : List Ky) (b : Nat → Bool) (hg : goesB t = true) (h : KGood l) (h0 : l.length ≠ 0) (h8 : l.length ≤ 8) (ht : t.size ≤ 20001) (hs : ∀ k ∈ l, k.1.size ≤ 140737488351232 ∧ k.2.size ≤ 140737488351232) (v : Value) (w : World) (hr : ReadsY w v (pick b 0 l)) (T : Hid (Tab w)) :
    Calls Tryd.prog 14 #[.string (noteOf t (sgs t l)), v] w fun e w' => (if (pick b 0 l).length = 0 then OpM 0 w' ByteArray.empty [] [] 0 0 202 e else OpM 0 w' t (sgs t (pick b 0 l)) (sgs t (pick (fun j => !b j) 0 l)) (pick b 0 l).length (pick (fun j => !b j) 0 l).length 0 e) ∧ Below w.heap.size w w' := by
  obtain ⟨RL, hG, _⟩ := gives_ex (noteOf t (sgs t l))
  have hz := Go.Proofs.YtfkpfmaphjeakaaDoor.w2.note_size t l h h8 ht
  have hp := pick_len b l 0
  refine (openC (noteOf t (sgs t l)) (by omega) RL hG v (pick b 0 l) w hr (by omega) (fun k hk => hs k (pick_sub b k hk)) T).mono ?_
  rintro e w' ⟨hq, hb⟩
  refine ⟨?_, hb⟩
  rw [open_mine t l b hg h h0 h8 ht RL hG] at hq
  by_cases hc : (pick b 0 l).length = 0
  · rw [if_pos hc] at hq ⊢
    obtain ⟨ga, gc, ra, rc, h1, h2, h3, _⟩ := hq
    exact ⟨ga, gc, ra, rc, h1, h2, h3⟩
  · rw [if_neg hc] at hq ⊢
    obtain ⟨ga, gc, ra, rc, h1, h2, h3, _⟩ := hq
    simp only [List.length_map] at h1 h2 h3
    exact ⟨ga, gc, ra, rc, h1, h2, h3⟩
end Go.Proofs.YtfkpfmaphjeakaaDoor.w7

namespace Go.Proofs.YtfkpfmaphjeakaaDoor.w8
open Go.RowKit Go.PlainAid Go.Shelf
open Go.Proofs.YtfkpfmaphjeakaaDoor.pl Go.Proofs.YtfkpfmaphjeakaaDoor.ft Go.Proofs.YtfkpfmaphjeakaaDoor.pj Go.Proofs.YtfkpfmaphjeakaaDoor.mo Go.Proofs.YtfkpfmaphjeakaaDoor.nd Go.Proofs.YtfkpfmaphjeakaaDoor.nh Go.Proofs.YtfkpfmaphjeakaaDoor.tb Go.Proofs.YtfkpfmaphjeakaaDoor.tc Go.Proofs.YtfkpfmaphjeakaaDoor.tj Go.Proofs.YtfkpfmaphjeakaaDoor.n3 Go.Proofs.YtfkpfmaphjeakaaDoor.n4 Go.Proofs.YtfkpfmaphjeakaaDoor.o1 Go.Proofs.YtfkpfmaphjeakaaDoor.o3 Go.Proofs.YtfkpfmaphjeakaaDoor.o5 Go.Proofs.YtfkpfmaphjeakaaDoor.o6 Go.Proofs.YtfkpfmaphjeakaaDoor.o7 Go.Proofs.YtfkpfmaphjeakaaDoor.o9 Go.Proofs.YtfkpfmaphjeakaaDoor.kp Go.Proofs.YtfkpfmaphjeakaaDoor.p2 Go.Proofs.YtfkpfmaphjeakaaDoor.q2 Go.Proofs.YtfkpfmaphjeakaaDoor.v4 Go.Proofs.YtfkpfmaphjeakaaDoor.v8 Go.Proofs.YtfkpfmaphjeakaaDoor.w2 Go.Proofs.YtfkpfmaphjeakaaDoor.w3 Go.Proofs.YtfkpfmaphjeakaaDoor.w4 Go.Proofs.YtfkpfmaphjeakaaDoor.w5 Go.Proofs.YtfkpfmaphjeakaaDoor.w6 Go.Proofs.YtfkpfmaphjeakaaDoor.w7
set_option linter.unusedVariables false
set_option maxRecDepth 4000

theorem take_snoc' {l : List Ky} {k : Nat} (h : k < l.length) : l.take (k + 1) = l.take k ++ [l[k]'h] := List.take_succ_eq_append_getElem h
set_option maxHeartbeats 25600000 in
theorem law_back (W0 : World) (s : ByteArray) (hs0 : s.size ≤ 140737488351232) (v : Value) (ks : List Ky) (hr : ReadsY W0 v ks) (hz : ks.length * 32 ≤ 140737488351232) (hs : ∀ k ∈ ks, k.1.size ≤ 140737488351232 ∧ k.2.size ≤ 140737488351232) (known added : Int) (tabs : St8 W0 0 ∧ K64 W0 2) :
    Calls Tryd.prog 4 #[.string s, v, .int .i64 known, .int .i64 added] W0 fun e w' => e = .returned (.bool true) ∧ Below W0.heap.size W0 w' := by
  have T : Hid (Tab W0) := Tab.of tabs
  clear tabs
  have TT : Hid (∀ w', Below W0.heap.size W0 w' → Hid (Tab w')) := fun w' h => T.out.down h
  have hg : Hid (goesB (lnd s) = true) := goes_lnd s
  have ht : Hid ((lnd s).size ≤ 20001) := lnd_size s
  obtain ⟨hG, h1L, h8L⟩ := sgn_ok ks
  have HG : Hid (KGood (sgn ks)) := hG
  have HZ : Hid (∀ k ∈ sgn ks, k.1.size ≤ 140737488351232 ∧ k.2.size ≤ 140737488351232) := sgn_sizes (fun k hk => (hs k hk).2)
  have C1 : Hid (Calls _ _ _ _ _) := linedC s hs0 W0
  have HC2 : Hid (∀ w, Below W0.heap.size W0 w → Calls _ _ _ _ _) := fun w h => signersC v ks w (hr.later h) (by omega) hs
  obtain ⟨a, c, rfl, _⟩ := id hr
  obtain ⟨t, HTT⟩ : ∃ t, Hid (lnd s = t) := ⟨_, rfl⟩
  obtain ⟨L, HL⟩ : ∃ L, Hid (sgn ks = L) := ⟨_, rfl⟩
  rw [HTT.out] at hg ht C1
  rw [HL.out] at HG HZ HC2 h1L h8L
  obtain ⟨m, HM⟩ : ∃ m, Hid (L.length = m) := ⟨_, rfl⟩
  rw [HM.out] at h1L h8L
  clear hr hs hG HTT HL
  -- the notes on the way
  obtain ⟨N, HN⟩ : ∃ N : Nat → ByteArray, Hid (∀ i, N i = noteOf t (sgs t (L.take i))) := ⟨fun i => noteOf t (sgs t (L.take i)), fun i => rfl⟩
  have HNN : Hid (∀ i, i < m → ∃ x : ByteArray, N (i + 1) = N i ++ x ∧ 0 < x.size) := fun i hi => by
    have hil : i < L.length := by rw [HM.out]; exact hi
    refine ⟨lineOf (sigOf (L[i]'hil) t), ?_, by rw [sig_line]; omega⟩
    rw [HN.out, HN.out, take_snoc' hil, note_snoc1]
  have HNZ : Hid (∀ i, i ≤ m → (N i).size ≤ 30000) := fun i hi => by
    rw [HN.out]
    exact Go.Proofs.YtfkpfmaphjeakaaDoor.w2.note_size t _ (good_take HG.out i) (by rw [List.length_take, HM.out]; omega) ht.out
  have CS : Hid (∀ w v' i, 1 ≤ i → i ≤ m → Below W0.heap.size W0 w → ReadsY w v' (L.take i) → Calls Tryd.prog 12 #[.string t, v'] w fun e w' => e = .returned (.tuple #[.string (N i), .int .i64 0]) ∧ Below w.heap.size w w') := fun w v' i h1 h2 h3 h4 => by
    rw [HN.out]
    exact sign1 t (L.take i) hg.out (good_take HG.out i) (by rw [List.length_take, HM.out]; omega) (by rw [List.length_take, HM.out]; omega) ht.out (fun k hk => HZ.out k (List.mem_of_mem_take hk)) v' w h4 (TT.out w h3)
  have CA : Hid (∀ w i y, i < m → 1 ≤ i → L[i]? = some y → Below W0.heap.size W0 w → Calls Tryd.prog 13 #[.string (N i), .agg #[.string y.1, .string y.2]] w fun e w' => e = .returned (.tuple #[.string (N (i + 1)), .int .i64 0]) ∧ Below w.heap.size w w') := fun w i y h1 h2 h3 h4 => by
    have hil : i < L.length := by rw [HM.out]; exact h1
    have ey : L[i]'hil = y := by rw [List.getElem?_eq_getElem hil] at h3; exact Option.some.inj h3
    have e1 := take_snoc' hil
    rw [ey] at e1
    rw [HN.out, HN.out, e1]
    refine add1 t (L.take i) y hg.out (by rw [← e1]; exact good_take HG.out _) (by rw [List.length_take, HM.out]; omega) (by rw [List.length_take, HM.out]; omega) ht.out (HZ.out y (by rw [← ey]; exact List.getElem_mem hil)) w (TT.out w h4)
  have CB : Hid (∀ w i y, i < m → L[i]? = some y → Below W0.heap.size W0 w → Calls Tryd.prog 13 #[.string (N (i + 1)), .agg #[.string y.1, .string y.2]] w fun e w' => e = .returned (.tuple #[.string (N (i + 1)), .int .i64 0]) ∧ Below w.heap.size w w') := fun w i y h1 h3 h4 => by
    have hil : i < L.length := by rw [HM.out]; exact h1
    have ey : L[i]'hil = y := by rw [List.getElem?_eq_getElem hil] at h3; exact Option.some.inj h3
    rw [HN.out]
    refine add2 t (L.take (i + 1)) y hg.out (good_take HG.out _) (by rw [List.length_take, HM.out]; omega) ht.out (by rw [take_snoc' hil, ey]; simp) (HZ.out y (by rw [← ey]; exact List.getElem_mem hil)) w (TT.out w h4)
  obtain ⟨bit, HBIT⟩ : ∃ bit : Nat → Bool, Hid (∀ i, (bits .and .i64 (known / 2 ^ i) 1 == 1) = bit i) := ⟨fun i => bits .and .i64 (known / 2 ^ i) 1 == 1, fun i => rfl⟩
  have CO : Hid (∀ w v', Below W0.heap.size W0 w → ReadsY w v' (pick bit 0 L) → Calls Tryd.prog 14 #[.string (N m), v'] w fun e w' => (if (pick bit 0 L).length = 0 then OpM 0 w' ByteArray.empty [] [] 0 0 202 e else OpM 0 w' t (sgs t (pick bit 0 L)) (sgs t (pick (fun j => !bit j) 0 L)) (pick bit 0 L).length (pick (fun j => !bit j) 0 L).length 0 e) ∧ Below w.heap.size w w') := fun w v' h1 h2 => by
    have e : N m = noteOf t (sgs t L) := by rw [HN.out, List.take_of_length_le (by rw [HM.out]; exact Nat.le_refl _)]
    rw [e]
    exact open1 t L bit hg.out HG.out (by rw [HM.out]; omega) (by rw [HM.out]; omega) ht.out HZ.out v' w h2 (TT.out w h1)
  have CG : Hid (∀ w v' l, l.length ≤ 8 → (∀ k ∈ l, k ∈ L) → Below W0.heap.size W0 w → ReadsY w v' l → Calls Tryd.prog 16 #[v', .string t] w fun e w' => (∃ a c, e = .returned (.slice a l.length c) ∧ Lg w.heap.size (.slice a l.length c) (sgs t l) w') ∧ Below w.heap.size w w') := fun w v' l h1 h2 h3 h4 => sigsC v' t l w h4 (by omega) (by have := ht.out; omega) (fun k hk => HZ.out k (h2 k hk)) (TT.out w h3)
  obtain ⟨q, hq7, hq⟩ := and7 added
  have hq0 : (0 : Int) ≤ (q : Int) := by omega
  have htz : t.size ≤ 20001 := ht.out
  clear T hg ht hz
  go_enter Tryd.func4, Tryd.ntmps4
  go_wp2_with fail
  refine C1.out.mono ?_
  rintro e w1 ⟨rfl, hb1⟩
  have B1 : Hid (Below W0.heap.size W0 w1) := hb1
  clear hb1 C1
  go_wp2_with fail
  refine (HC2.out w1 B1.out).mono ?_
  rintro e w2 ⟨⟨v2, rfl, hl2⟩, hb2⟩
  obtain ⟨la, lc, hv⟩ := own_form hl2
  subst hv
  rw [HM.out] at hl2 ⊢
  have B2 : Hid (Below W0.heap.size W0 w2) := over B1.out hb2
  have RL : Hid (∀ w, Below w2.heap.size w2 w → ReadsY w (.slice la m lc) L) := fun w h => (lk_reads hl2 HM.out).later h
  have hcap : m ≤ lc := by obtain ⟨_, _, e, h, _⟩ := lk_reads hl2 HM.out; injection e with _ _ e3; rw [HM.out] at h; omega
  clear hl2 hb2 HC2
  go_upto_if 34 with fail
  go_cut [11] (fun cc wx => ∃ n : Nat, 1 ≤ n ∧ n ≤ m ∧ cc = .int .i64 n ∧ wx = w2)
  case first =>
    by_cases hc : m < 1 + q
    · have hc' : decide ((1 : Int) + q > m) = true := decide_eq_true (by omega)
      go_wp2
      go_meet
      exact ⟨m, h1L, Nat.le_refl _, rfl, rfl⟩
    · have hc' : decide ((1 : Int) + q > m) = false := decide_eq_false (by omega)
      go_wp2
      go_meet
      exact ⟨1 + q, by omega, by omega, by first | rfl | go_num, rfl⟩
  case rest =>
  obtain ⟨n, hn1, hnm, rfl, rfl⟩ := hcut
  have hnc : (n : Int) ≤ lc := by omega
  have RS : Hid (ReadsY wc (.slice la n lc) (L.take n)) := reads_take (RL.out wc (Below.refl _ _)) n (by rw [HM.out]; exact hnm)
  go_wp2_with fail
  refine (CS.out wc (.slice la n lc) n hn1 hnm B2.out RS.out).mono ?_
  rintro e w3 ⟨rfl, hb3⟩
  have B3 : Hid (Below W0.heap.size W0 w3) := over B2.out hb3
  have R3 : Hid (∀ w, Below w3.heap.size w3 w → ReadsY w (.slice la L.length lc) L) := fun w h => by rw [HM.out]; exact RL.out w (over hb3 h)
  clear hb3 RL RS
  go_wp2_with (go_at_call 8; refine (numC _ _).mono ?_; rintro e wz ⟨rfl, hz⟩; rw [hz]; clear hz wz)
  go_loopw [12, 14] (fun bv iv wr => ∃ i : Nat, n ≤ i ∧ i ≤ m ∧ iv = .int .i64 i ∧ bv = .string (N i) ∧ Hid (Below w3.heap.size w3 wr)) (fun _ iv _ => (m - intOf iv).toNat)
  case atStart => exact ⟨n, Nat.le_refl _, hnm, rfl, rfl, Below.refl _ _⟩
  case round =>
    obtain ⟨i, hni, him, rfl, rfl, HB⟩ := hrel
    by_cases hlt : i < m
    · have hlt' : (i : Int) < m := by omega
      have hil : i < L.length := by rw [HM.out]; exact hlt
      obtain ⟨y, HY⟩ : ∃ y, Hid (L[i]? = some y) := ⟨L[i]'hil, List.getElem?_eq_getElem hil⟩
      obtain ⟨b, off, ha, hbw, c1, c2⟩ := (R3.out wr HB.out).at i y HY.out
      obtain ⟨b', off', ha', hbw', d1, d2⟩ := (R3.out w3 (Below.refl _ _)).at i y HY.out
      rw [ha] at ha'
      injection ha' with ha'
      injection ha' with e1 e2
      subst e1 e2
      subst ha
      have BW : Hid (Below W0.heap.size W0 wr) := over B3.out HB.out
      have A1 : Hid (Calls _ _ _ _ _) := CA.out wr i y hlt (by omega) HY.out BW.out
      have A2 : Hid (∀ w, Below W0.heap.size W0 w → Calls _ _ _ _ _) := fun w h => CB.out w i y hlt HY.out h
      obtain ⟨x, hx, hx0⟩ := HNN.out i hlt
      have z1 := HNZ.out i him
      have z2 := HNZ.out (i + 1) (by omega)
      have HC : Hid (∀ w, Below w3.heap.size w3 w → w.cell? ⟨b, off + i * 2, none⟩ = some (.string y.1) ∧ w.cell? ⟨b, off + i * 2 + 1, none⟩ = some (.string y.2)) := fun w h => ⟨(h.cell (p := ⟨b, off + i * 2, none⟩) hbw').trans d1, (h.cell (p := ⟨b, off + i * 2 + 1, none⟩) hbw').trans d2⟩
      clear d1 d2
      obtain ⟨kn, kx⟩ := y
      simp only at c1 c2 HC A1 A2
      obtain ⟨bI, HBI⟩ : ∃ bI, Hid (N i = bI) := ⟨_, rfl⟩
      obtain ⟨cI, HCI⟩ : ∃ cI, Hid (N (i + 1) = cI) := ⟨_, rfl⟩
      rw [HBI.out] at A1 hx z1 ⊢
      rw [HCI.out] at A1 A2 hx z2
      have hq1 : (cI.toList == cI.toList) = true := by simp
      have hsz : cI.size = bI.size + x.size := by rw [hx, ByteArray.size_append]
      have hq2 : ¬ (cI.size : Int) ≤ bI.size := by omega
      have hq3 : (bI.size : Int) ≤ cI.size := by omega
      have hq4 : cI.extract 0 bI.size = bI := by rw [hx]; exact ByteArray.extract_append_eq_left rfl
      have hq5 : (bI.toList == bI.toList) = true := by simp
      have hq6 : (cI.toList != cI.toList) = false := by simp
      have hq7 : (bI.toList != bI.toList) = false := by simp
      clear hx hsz hx0
      go_wp2_with fail
      refine A1.out.mono ?_
      rintro e w4 ⟨rfl, hb4⟩
      have B4 : Hid (Below w3.heap.size w3 w4) := over HB.out hb4
      clear hb4 c1 c2
      obtain ⟨c1, c2⟩ := HC.out w4 B4.out
      go_wp2_with fail
      refine (A2.out w4 (over B3.out B4.out)).mono ?_
      rintro e w5 ⟨rfl, hb5⟩
      have B5 : Hid (Below w3.heap.size w3 w5) := over B4.out hb5
      clear hb5 c1 c2
      go_wp2_with (go_at_call 8; refine (numC _ _).mono ?_; rintro e wz ⟨rfl, hz⟩; rw [hz]; clear hz wz)
      go_roundw
      case rel => exact ⟨i + 1, by omega, by omega, by first | rfl | go_num, by rw [HCI.out], B5.out⟩
      case measure => simp [intOf]; omega
    · have hlt' : ¬ (i : Int) < m := by omega
      obtain rfl : m = i := by omega
      have BW : Hid (Below W0.heap.size W0 wr) := over B3.out HB.out
      have R5 : Hid (∀ w, Below wr.heap.size wr w → ReadsY w (.slice la L.length lc) L) := fun w h => R3.out w (over HB.out h)
      have HTW : Hid (TwK wr.heap.size [] [] (.slice none 0 0) (.slice none 0 0) wr) := TwK.nil _ _
      obtain ⟨i0, hi0, hi1, hi2, hi3⟩ := info_parts infoY
      have HI : Hid (Tryd.prog.info? 39 = some i0 ∧ i0.zero = some (.agg #[.string ⟨#[]⟩, .string ⟨#[]⟩]) ∧ i0.size = 2 ∧ i0.bytes = 32) := ⟨hi0, hi1, hi2, hi3⟩
      clear hi0 hi1 hi2 hi3 CS CA CB R3 HNN HB
      obtain ⟨wm, rfl⟩ : ∃ v, v = wr := ⟨_, rfl⟩
      go_wp2
      go_loopw [19, 20, 21] (fun mv ov kv wi => ∃ k : Nat, k ≤ m ∧ kv = .int .i64 k ∧ Hid (TwK wm.heap.size (pick bit 0 (L.take k)) (pick (fun j => !bit j) 0 (L.take k)) mv ov wi ∧ Below wm.heap.size wm wi)) (fun _ _ kv _ => (m - intOf kv).toNat)
      case atStart => exact ⟨0, by omega, rfl, HTW.out, Below.refl _ _⟩
      case round =>
        obtain ⟨k, hkm, rfl, HH⟩ := hrel
        obtain ⟨ma, mc, hv1⟩ := own_form HH.out.1.x
        obtain ⟨oa, oc, hv2⟩ := own_form HH.out.1.y
        subst hv1 hv2
        obtain ⟨P, HP⟩ : ∃ P, Hid (pick bit 0 (L.take k) = P) := ⟨_, rfl⟩
        obtain ⟨O, HO⟩ : ∃ O, Hid (pick (fun j => !bit j) 0 (L.take k) = O) := ⟨_, rfl⟩
        have HTK : Hid (TwK wm.heap.size P O (.slice ma P.length mc) (.slice oa O.length oc) wr) := by have := HH.out.1; rw [HP.out, HO.out] at this; exact this
        have HBk : Hid (Below wm.heap.size wm wr) := HH.out.2
        have zP : P.length ≤ 8 := by rw [← HP.out]; have := pick_len bit (L.take k) 0; rw [List.length_take] at this; omega
        have zO : O.length ≤ 8 := by rw [← HO.out]; have := pick_len (fun j => !bit j) (L.take k) 0; rw [List.length_take] at this; omega
        rw [HP.out, HO.out]
        clear HH
        by_cases hlt2 : k < m
        · have hlt2' : (k : Int) < m := by omega
          have hil : k < L.length := by rw [HM.out]; exact hlt2
          obtain ⟨y, HY⟩ : ∃ y, Hid (L[k]'hil = y) := ⟨_, rfl⟩
          obtain ⟨b, off, ha, hbw, c1, c2⟩ := (R5.out wr HBk.out).at k y (by rw [List.getElem?_eq_getElem hil, HY.out])
          subst ha
          have HPN : Hid (pick bit 0 (L.take (k + 1)) = P ++ (if bit k = true then [y] else [])) := by
            show _ = _
            rw [take_snoc' hil, pick_snoc, HP.out, HY.out, Nat.zero_add, List.length_take, Nat.min_eq_left (by omega)]
          have HON : Hid (pick (fun j => !bit j) 0 (L.take (k + 1)) = O ++ (if (!bit k) = true then [y] else [])) := by
            show _ = _
            rw [take_snoc' hil, pick_snoc, HO.out, HY.out, Nat.zero_add, List.length_take, Nat.min_eq_left (by omega)]
          obtain ⟨kn, kx⟩ := y
          simp only at c1 c2
          have hw : IntKind.u64.wrap (k : Int) = k := by rw [IntKind.wrap_u64]; omega
          have hk0 : (0 : Int) ≤ (k : Int) := by omega
          have hk64 : (k : Int) ≤ 64 := by omega
          have hbit := HBIT.out k
          obtain ⟨np, HNP⟩ : ∃ np, Hid (P.length = np) := ⟨_, rfl⟩
          obtain ⟨no, HNO⟩ : ∃ no, Hid (O.length = no) := ⟨_, rfl⟩
          have HTA : Hid (TwK wm.heap.size P O (.slice ma np mc) (.slice oa no oc) (wr.alloc (.cells #[.string kn, .string kx] 39))) := by rw [← HNP.out, ← HNO.out]; exact HTK.out.later ((Below.refl _ _).alloc (Nat.le_refl _) _)
          have BA : Hid (Below wm.heap.size wm (wr.alloc (.cells #[.string kn, .string kx] 39))) := HBk.out.alloc HBk.out.size _
          have HOA : Hid ((wr.alloc (.cells #[.string kn, .string kx] 39)).ownsRow wm.heap.size 39 2 (.slice ma np mc) np (kcs P)) := by have := HTA.out.x; unfold Lk at this; rw [HNP.out] at this; exact this
          have HOB : Hid ((wr.alloc (.cells #[.string kn, .string kx] 39)).ownsRow wm.heap.size 39 2 (.slice oa no oc) no (kcs O)) := by have := HTA.out.y; unfold Lk at this; rw [HNO.out] at this; exact this
          rw [HNP.out] at zP ⊢
          rw [HNO.out] at zO ⊢
          cases hb : bit k
          · have HPN2 : Hid (pick bit 0 (L.take (k + 1)) = P) := by show _ = _; rw [HPN.out, hb]; simp
            have HON2 : Hid (pick (fun j => !bit j) 0 (L.take (k + 1)) = O ++ [(kn, kx)]) := by show _ = _; rw [HON.out, hb]; rfl
            have h01 : (bits .and .i64 (known / 2 ^ k) 1 == 1) = false := by rw [hbit, hb]
            clear hbit hb HPN HON
            go_wp2_with (at_builtin; refine wpList_append_own_at _ rfl _ _ 33 rfl wm.heap.size 39 i0 (.agg #[.string ⟨#[]⟩, .string ⟨#[]⟩]) 2 32 Tryd.underlying33 HI.out.1 HI.out.2.1 HI.out.2.2.1 HI.out.2.2.2 rfl (by decide) (.slice oa no oc) no _ rfl HOB.out ⟨wr.heap.size, 0, none⟩ 1 1 [.string kn, .string kx] rfl rfl (new_two _ _ _ _) (one_two _ _) (by unfold maxLen; omega) (by omega) BA.out.size ?_; intro v2 w2 hown2 hgr2 hnn2 hat2; have F2 : Hid (TwK wm.heap.size (O ++ [(kn, kx)]) P v2 (.slice ma np mc) w2) := TwK.addX HTA.out.swap (by unfold Lk; rw [List.length_append, HNO.out, kcs_app]; exact hown2) hgr2 hat2; have B2' : Hid (Below wm.heap.size wm w2) := BA.out.grown hgr2 BA.out.size (fun j hj => (HOB.out.lt _ hj).1); clear hown2 hgr2 hnn2 hat2)
            go_roundw
            case rel => exact ⟨k + 1, by omega, by first | rfl | go_num, by rw [HPN2.out, HON2.out]; exact F2.out.swap, B2'.out⟩
            case measure => simp [intOf]; omega
          · have HPN2 : Hid (pick bit 0 (L.take (k + 1)) = P ++ [(kn, kx)]) := by show _ = _; rw [HPN.out, hb]; rfl
            have HON2 : Hid (pick (fun j => !bit j) 0 (L.take (k + 1)) = O) := by show _ = _; rw [HON.out, hb]; simp
            have h01 : (bits .and .i64 (known / 2 ^ k) 1 == 1) = true := by rw [hbit, hb]
            clear hbit hb HPN HON
            go_wp2_with (at_builtin; refine wpList_append_own_at _ rfl _ _ 33 rfl wm.heap.size 39 i0 (.agg #[.string ⟨#[]⟩, .string ⟨#[]⟩]) 2 32 Tryd.underlying33 HI.out.1 HI.out.2.1 HI.out.2.2.1 HI.out.2.2.2 rfl (by decide) (.slice ma np mc) np _ rfl HOA.out ⟨wr.heap.size, 0, none⟩ 1 1 [.string kn, .string kx] rfl rfl (new_two _ _ _ _) (one_two _ _) (by unfold maxLen; omega) (by omega) BA.out.size ?_; intro v2 w2 hown2 hgr2 hnn2 hat2; have F2 : Hid (TwK wm.heap.size (P ++ [(kn, kx)]) O v2 (.slice oa no oc) w2) := TwK.addX HTA.out (by unfold Lk; rw [List.length_append, HNP.out, kcs_app]; exact hown2) hgr2 hat2; have B2' : Hid (Below wm.heap.size wm w2) := BA.out.grown hgr2 BA.out.size (fun j hj => (HOA.out.lt _ hj).1); clear hown2 hgr2 hnn2 hat2)
            go_roundw
            case rel => exact ⟨k + 1, by omega, by first | rfl | go_num, by rw [HPN2.out, HON2.out]; exact F2.out, B2'.out⟩
            case measure => simp [intOf]; omega
        · have hlt2' : ¬ (k : Int) < m := by omega
          obtain rfl : m = k := by omega
          have HP2 : Hid (pick bit 0 L = P) := by show _ = _; rw [← HP.out, List.take_of_length_le (by rw [HM.out]; exact Nat.le_refl _)]
          have HO2 : Hid (pick (fun j => !bit j) 0 L = O) := by show _ = _; rw [← HO.out, List.take_of_length_le (by rw [HM.out]; exact Nat.le_refl _)]
          have BX : Hid (Below W0.heap.size W0 wr) := over BW.out HBk.out
          have RP : Hid (∀ w, Below wr.heap.size wr w → ReadsY w (.slice ma P.length mc) P) := fun w h => (lk_reads HTK.out.x rfl).later h
          have RO : Hid (∀ w, Below wr.heap.size wr w → ReadsY w (.slice oa O.length oc) O) := fun w h => (lk_reads HTK.out.y rfl).later h
          have CO2 : Hid (Calls _ _ _ _ _) := CO.out wr (.slice ma P.length mc) BX.out (by rw [HP2.out]; exact RP.out wr (Below.refl _ _))
          have HPS : Hid ((∀ k ∈ P, k ∈ L) ∧ ∀ k ∈ O, k ∈ L) := by rw [← HP2.out, ← HO2.out]; exact ⟨pick_sub _, pick_sub _⟩
          rw [HP2.out, HO2.out] at CO2
          have CGP : Hid (∀ w, Below wr.heap.size wr w → Calls _ _ _ _ _) := fun w h => CG.out w (.slice ma P.length mc) P zP HPS.out.1 (over BX.out h) (RP.out w h)
          have CGO : Hid (∀ w, Below wr.heap.size wr w → Calls _ _ _ _ _) := fun w h => CG.out w (.slice oa O.length oc) O zO HPS.out.2 (over BX.out h) (RO.out w h)
          have HSP : Hid ((sgs t P).length = P.length ∧ (sgs t O).length = O.length) := ⟨List.length_map _, List.length_map _⟩
          obtain ⟨np, HNP⟩ : ∃ np, Hid (P.length = np) := ⟨_, rfl⟩
          obtain ⟨no, HNO⟩ : ∃ no, Hid (O.length = no) := ⟨_, rfl⟩
          obtain ⟨gP, HGP⟩ : ∃ g, Hid (sgs t P = g) := ⟨_, rfl⟩
          obtain ⟨gO, HGO⟩ : ∃ g, Hid (sgs t O = g) := ⟨_, rfl⟩
          rw [HNP.out, HNO.out, HGP.out, HGO.out] at CO2 HSP
          rw [HNP.out, HGP.out] at CGP
          rw [HNO.out, HGO.out] at CGO
          rw [HNP.out] at zP ⊢
          rw [HNO.out] at zO ⊢
          clear CO CG R5 HTK HP HO RP RO HP2 HO2
          by_cases h0 : np = 0
          · subst h0
            simp only [if_pos] at CO2
            obtain ⟨he1, he2⟩ := yes_empty ByteArray.empty rfl
            obtain ⟨tE, HTE⟩ : ∃ tE, Hid (ByteArray.empty = tE) := ⟨_, rfl⟩
            rw [HTE.out] at CO2 he1 he2
            clear CGP CGO HSP
            go_wp2_with fail
            refine CO2.out.mono ?_
            rintro e w6 ⟨⟨ga, gc, ra, rc, rfl, hg, hr⟩, hb6⟩
            have B6 : Hid (Below W0.heap.size W0 (w6.alloc (.cells #[.string tE, .slice ga (0 : Nat) gc, .slice ra (0 : Nat) rc] 43))) := (over BX.out hb6).alloc (over BX.out hb6).size _
            clear hb6 hg hr CO2
            go_wp2_with (go_at_call 8; refine (numC _ _).mono ?_; rintro e wz ⟨rfl, hz⟩; rw [hz]; clear hz wz)
            go_ret
            exact ⟨rfl, B6.out⟩
          · simp only [if_neg h0] at CO2
            have g0 : ((np : Int) == 0) = false := beq_eq_false_iff_ne.2 (by omega)
            have g0' : ¬ (np : Int) = 0 := by omega
            clear h0
            go_wp2_with fail
            refine CO2.out.mono ?_
            rintro e w6 ⟨⟨ga, gc, ra, rc, rfl, hg, hr⟩, hb6⟩
            obtain ⟨V, HV⟩ : ∃ V, Hid (w6.alloc (.cells #[.string t, .slice ga np gc, .slice ra no rc] 43) = V) := ⟨_, rfl⟩
            have BV : Hid (Below w6.heap.size w6 V) := by rw [← HV.out]; exact (Below.refl _ _).alloc (Nat.le_refl _) _
            have HVB : Hid (V.heap[w6.heap.size]? = some (.cells #[.string t, .slice ga np gc, .slice ra no rc] 43 (0, 0))) := by rw [← HV.out]; exact heap_alloc_new _ _
            have BRV : Hid (Below wr.heap.size wr V) := over hb6 BV.out
            have HG6 : Hid (∀ w, Below V.heap.size V w → ReadsG w (.slice ga np gc) gP) := fun w h => (hg.later BV.out).later h
            have HR6 : Hid (∀ w, Below V.heap.size V w → ReadsG w (.slice ra no rc) gO) := fun w h => (hr.later BV.out).later h
            have hlt6 : w6.heap.size < V.heap.size := (Array.getElem?_eq_some_iff.1 HVB.out).1
            have SX : Hid (∀ w', Below V.heap.size V w' → Below V.heap.size V w' ∧ w'.cell? ⟨w6.heap.size, 0, none⟩ = some (.string t) ∧ w'.cell? ⟨w6.heap.size, 1, none⟩ = some (.slice ga np gc) ∧ w'.cell? ⟨w6.heap.size, 2, none⟩ = some (.slice ra no rc)) := fun w' h => ⟨h, by rw [h.cell (p := ⟨w6.heap.size, 0, none⟩) hlt6, cell_of_row _ _ 0 _ _ _ HVB.out]; rfl, by rw [h.cell (p := ⟨w6.heap.size, 1, none⟩) hlt6, cell_of_row _ _ 1 _ _ _ HVB.out]; rfl, by rw [h.cell (p := ⟨w6.heap.size, 2, none⟩) hlt6, cell_of_row _ _ 2 _ _ _ HVB.out]; rfl⟩
            have hqt : (t.toList == t.toList) = true := by simp
            have D0 : Hid (Below V.heap.size V V.drew) := Go.Proofs.YtfkpfmaphjeakaaDoor.tj.below_dN (Below.refl _ _) 1
            have HV1 : Hid (∀ w', Below V.heap.size V w' → Below wr.heap.size wr w') := fun w' h => over BRV.out h
            clear hb6 hg hr CO2
            go_upto_region 26 with fail
            rw [HV.out]
            obtain ⟨ob, HOB⟩ : ∃ ob, Hid (w6.heap.size = ob) := ⟨_, rfl⟩
            rw [HOB.out] at SX ⊢
            clear hlt6
            go_wp2_with fail
            go_region_held3 (fun w' => Below V.heap.size V w' ∧ w'.cell? ⟨ob, 0, none⟩ = some (.string t) ∧ w'.cell? ⟨ob, 1, none⟩ = some (.slice ga np gc) ∧ w'.cell? ⟨ob, 2, none⟩ = some (.slice ra no rc)) (first | exact SX.out _ D0.out | exact SX.out _ B8.out | exact SX.out _ B9.out | exact SX.out _ B10.out | exact SX.out _ B11.out | assumption) ((first | (go_at_call 15; refine (sameY (.slice ra no rc) (.slice a10 no c10) gO w10 (HR6.out w10 B10.out) L10.out.reads (by rw [HSP.out.2]; omega)).mono ?_; rintro e w11 ⟨rfl, hb11⟩; have B11 : Hid (Below V.heap.size V w11) := over B10.out hb11; clear hb11) | (go_at_call 16; refine (CGO.out w9 (HV1.out w9 B9.out)).mono ?_; rintro e w10 ⟨⟨a10, c10, rfl, hl10⟩, hb10⟩; have L10 : Hid (Lg w9.heap.size (.slice a10 no c10) gO w10) := hl10; have B10 : Hid (Below V.heap.size V w10) := over B9.out hb10; clear hl10 hb10) | (go_at_call 15; refine (sameY (.slice ga np gc) (.slice a8 np c8) gP w8 (HG6.out w8 B8.out) L8.out.reads (by rw [HSP.out.1]; omega)).mono ?_; rintro e w9 ⟨rfl, hb9⟩; have B9 : Hid (Below V.heap.size V w9) := over B8.out hb9; clear hb9) | (go_at_call 16; refine (CGP.out _ (HV1.out _ D0.out)).mono ?_; rintro e w8 ⟨⟨a8, c8, rfl, hl8⟩, hb8⟩; have L8 : Hid (Lg _ (.slice a8 np c8) gP w8) := hl8; have B8 : Hid (Below V.heap.size V w8) := D0.out.trans (hb8.mono D0.out.size); clear hl8 hb8) | (go_at_call 8; refine (numC _ _).mono ?_; rintro e wz ⟨rfl, hz⟩; rw [hz]; clear hz wz)))
            all_goals (
              go_wp2
              go_ret
              exact ⟨rfl, over BX.out (HV1.out _ B11.out)⟩)
end Go.Proofs.YtfkpfmaphjeakaaDoor.w8
