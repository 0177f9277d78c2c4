import Derived.Test.YtfkpfmaphjeakaaDoorG1
import Derived.Deep.RegionHeldLaw
import Derived.Deep.QuietTactic
import Derived.BigQuiet
import Derived.Deep.RegionHeld3
namespace Go.Proofs.YtfkpfmaphjeakaaDoor.x1
open Go.RowKit Go.PlainAid
open Go.Proofs.YtfkpfmaphjeakaaDoor.mo Go.Proofs.YtfkpfmaphjeakaaDoor.nh Go.Proofs.YtfkpfmaphjeakaaDoor.ta Go.Proofs.YtfkpfmaphjeakaaDoor.tb Go.Proofs.YtfkpfmaphjeakaaDoor.tc Go.Proofs.YtfkpfmaphjeakaaDoor.tj Go.Proofs.YtfkpfmaphjeakaaDoor.n3 Go.Proofs.YtfkpfmaphjeakaaDoor.n4 Go.Proofs.YtfkpfmaphjeakaaDoor.o1 Go.Proofs.YtfkpfmaphjeakaaDoor.o3 Go.Proofs.YtfkpfmaphjeakaaDoor.o5 Go.Proofs.YtfkpfmaphjeakaaDoor.q1 Go.Proofs.YtfkpfmaphjeakaaDoor.q2 Go.Proofs.YtfkpfmaphjeakaaDoor.q3 Go.Proofs.YtfkpfmaphjeakaaDoor.q5 Go.Proofs.YtfkpfmaphjeakaaDoor.r1 Go.Proofs.YtfkpfmaphjeakaaDoor.s1 Go.Proofs.YtfkpfmaphjeakaaDoor.s2 Go.Proofs.YtfkpfmaphjeakaaDoor.s3 Go.Proofs.YtfkpfmaphjeakaaDoor.t3 Go.Proofs.YtfkpfmaphjeakaaDoor.t5 Go.Proofs.YtfkpfmaphjeakaaDoor.v2 Go.Proofs.YtfkpfmaphjeakaaDoor.v4 Go.Proofs.YtfkpfmaphjeakaaDoor.w1 Go.Proofs.YtfkpfmaphjeakaaDoor.w2
set_option linter.unusedVariables false
set_option maxRecDepth 4000

-- the good ones and the others, step by step
theorem op_ext (ks : List Ky) (body : ByteArray) : ∀ (l : List Sg) (s r : List Sg × List Sg), opF ks body l s = some r → s.1 <+: r.1 ∧ s.2 <+: r.2 ∧ r.1.length + r.2.length = s.1.length + s.2.length + l.length
  | [], s, r, h => by
    rw [opF] at h
    obtain rfl := Option.some.inj h
    exact ⟨List.prefix_refl _, List.prefix_refl _, by simp⟩
  | g :: l, s, r, h => by
    rw [opF] at h
    split at h
    · obtain ⟨h1, h2, h3⟩ := op_ext ks body l _ r h
      exact ⟨h1, (List.prefix_append _ _).trans h2, by rw [h3]; simp; omega⟩
    · split at h
      · obtain ⟨h1, h2, h3⟩ := op_ext ks body l _ r h
        exact ⟨(List.prefix_append _ _).trans h1, h2, by rw [h3]; simp; omega⟩
      · cases h
theorem op_all (ks : List Ky) (body : ByteArray) : ∀ (l : List Sg) (s r : List Sg × List Sg), opF ks body l s = some r → (∀ x ∈ r.1, x ∈ s.1 ∨ (x ∈ l ∧ 0 ≤ ownF x ks 0 ∧ x.mac = macF (sec ks x) body)) ∧ ∀ x ∈ r.2, x ∈ s.2 ∨ (x ∈ l ∧ ownF x ks 0 < 0)
  | [], s, r, h => by
    rw [opF] at h
    obtain rfl := Option.some.inj h
    exact ⟨fun x hx => .inl hx, fun x hx => .inl hx⟩
  | g :: l, s, r, h => by
    rw [opF] at h
    split at h
    · rename_i hc
      obtain ⟨h1, h2⟩ := op_all ks body l _ r h
      refine ⟨fun x hx => ?_, fun x hx => ?_⟩
      · rcases h1 x hx with h | ⟨h, h'⟩
        · exact .inl h
        · exact .inr ⟨by simp [h], h'⟩
      · rcases h2 x hx with h | ⟨h, h'⟩
        · rcases List.mem_append.1 h with h | h
          · exact .inl h
          · rw [List.mem_singleton.1 h]; exact .inr ⟨by simp, hc⟩
        · exact .inr ⟨by simp [h], h'⟩
    · split at h
      · rename_i hc hm
        obtain ⟨h1, h2⟩ := op_all ks body l _ r h
        refine ⟨fun x hx => ?_, fun x hx => ?_⟩
        · rcases h1 x hx with h | ⟨h, h'⟩
          · rcases List.mem_append.1 h with h | h
            · exact .inl h
            · rw [List.mem_singleton.1 h]; exact .inr ⟨by simp, by omega, hm⟩
          · exact .inr ⟨by simp [h], h'⟩
        · rcases h2 x hx with h | ⟨h, h'⟩
          · exact .inl h
          · exact .inr ⟨by simp [h], h'⟩
      · cases h
structure Mg (ks : List Ky) (body : ByteArray) (gs go re : List Sg) (i j : Nat) : Prop where
  hi : i ≤ go.length
  hj : j ≤ re.length
  hij : i + j ≤ gs.length
  ho : opF ks body (gs.drop (i + j)) (go.take i, re.take j) = some (go, re)
theorem mg_zero {ks : List Ky} {body : ByteArray} {gs go re : List Sg} (h : opF ks body gs ([], []) = some (go, re)) : Mg ks body gs go re 0 0 := ⟨Nat.zero_le _, Nat.zero_le _, Nat.zero_le _, h⟩
theorem mg_len {ks : List Ky} {body : ByteArray} {gs go re : List Sg} {i j : Nat} (h : Mg ks body gs go re i j) : go.length + re.length = gs.length := by
  have := (op_ext ks body _ _ _ h.ho).2.2
  have h1 := h.hi
  have h2 := h.hj
  have h3 := h.hij
  simp only [List.length_take, List.length_drop] at this
  omega
theorem mg_end {ks : List Ky} {body : ByteArray} {gs go re : List Sg} {i j : Nat} (h : Mg ks body gs go re i j) (e : i + j = gs.length) : i = go.length ∧ j = re.length := by
  have := mg_len h
  have h1 := h.hi
  have h2 := h.hj
  omega
theorem take_pre {l : List Sg} {i : Nat} {g : Sg} (hi : i ≤ l.length) (h : l.take i ++ [g] <+: l) : ∃ h2 : i < l.length, l[i]'h2 = g ∧ l.take (i + 1) = l.take i ++ [g] := by
  obtain ⟨t, ht⟩ := h
  have hl := congrArg List.length ht
  simp only [List.length_append, List.length_take, List.length_singleton] at hl
  have h2 : i < l.length := by omega
  have hg : l[i]'h2 = g := by
    have e : (l.take i ++ [g] ++ t)[i]? = some g := by
      rw [List.append_assoc, List.getElem?_append_right (by rw [List.length_take]; omega), List.length_take, Nat.min_eq_left hi, Nat.sub_self]
      rfl
    rw [ht, List.getElem?_eq_getElem h2] at e
    exact Option.some.inj e
  exact ⟨h2, hg, by rw [List.take_succ_eq_append_getElem h2, hg]⟩
theorem mg_next {ks : List Ky} {body : ByteArray} {gs go re : List Sg} {i j : Nat} (h : Mg ks body gs go re i j) (e : i + j < gs.length) :
    (0 ≤ ownF (gs[i + j]'e) ks 0 ∧ (∃ h2 : i < go.length, go[i]'h2 = gs[i + j]'e) ∧ Mg ks body gs go re (i + 1) j) ∨ (ownF (gs[i + j]'e) ks 0 < 0 ∧ (∃ h2 : j < re.length, re[j]'h2 = gs[i + j]'e) ∧ Mg ks body gs go re i (j + 1)) := by
  have ho := h.ho
  rw [op_step ks body gs (i + j) e] at ho
  split at ho
  · rename_i hc
    right
    obtain ⟨_, h2, _⟩ := op_ext ks body _ _ _ ho
    obtain ⟨h3, h4, h5⟩ := take_pre h.hj h2
    refine ⟨hc, ⟨h3, h4⟩, h.hi, h3, by omega, ?_⟩
    rw [h5, show i + (j + 1) = i + j + 1 by omega]
    exact ho
  · split at ho
    · rename_i hc hm
      left
      obtain ⟨h2, _, _⟩ := op_ext ks body _ _ _ ho
      obtain ⟨h3, h4, h5⟩ := take_pre h.hi h2
      refine ⟨by omega, ⟨h3, h4⟩, h3, h.hj, by omega, ?_⟩
      rw [h5, show i + 1 + j = i + j + 1 by omega]
      exact ho
    · cases ho
-- how far it is written
def preB (body : ByteArray) (gs : List Sg) (t : Nat) : ByteArray := noteOf body (gs.take t)
theorem pre_zero (body : ByteArray) (gs : List Sg) : preB body gs 0 = body ++ ⟨#[10]⟩ := by
  unfold preB noteOf
  rw [List.take_zero, List.map_nil, flatB, ByteArray.append_empty]
theorem pre_all (body : ByteArray) (gs : List Sg) : preB body gs gs.length = noteOf body gs := by unfold preB; rw [List.take_of_length_le (Nat.le_refl _)]
theorem pre_step (body : ByteArray) (gs : List Sg) (t : Nat) (h : t < gs.length) : preB body gs (t + 1) = preB body gs t ++ lineOf (gs[t]'h) := by
  unfold preB noteOf
  rw [List.take_succ_eq_append_getElem h, List.map_append, flat_app, ← ByteArray.append_assoc]
  congr 1
  show lineOf _ ++ ByteArray.empty = _
  rw [ByteArray.append_empty]
theorem pre_rest (body : ByteArray) (gs : List Sg) (t : Nat) (h : t ≤ gs.length) : noteOf body gs = preB body gs t ++ flatB ((gs.drop t).map lineOf) := by
  unfold preB noteOf
  rw [ByteArray.append_assoc, ByteArray.append_assoc, ByteArray.append_assoc, ← flat_app, ← List.map_append, List.take_append_drop]
theorem pre_rest1 (body : ByteArray) (gs : List Sg) (t : Nat) (h : t < gs.length) : noteOf body gs = preB body gs t ++ (lineOf (gs[t]'h) ++ flatB ((gs.drop (t + 1)).map lineOf)) := by
  rw [pre_rest body gs t (Nat.le_of_lt h), List.drop_eq_getElem_cons h, List.map_cons, flatB]
theorem line_low {x g : Sg} (fx : Fine x) (fg : Fine g) (r s : ByteArray) (h : lineOf x ++ r = lineOf g ++ s) (hl : (lnB x).size < (lnB g).size) : False := by
  obtain ⟨_, n1, _⟩ := sig_there fg
  rw [line_nl, line_nl, ByteArray.append_assoc, ByteArray.append_assoc] at h
  have e1 := bt_right (lnB x) (nlB ++ r) 0 (by rw [ByteArray.size_append, nl_size]; omega)
  rw [h, Nat.add_zero, bt_left _ _ _ hl, bt_left nlB r 0 (by rw [nl_size]; omega), nl_bt] at e1
  exact n1 _ hl e1
theorem line_pre {x g : Sg} (fx : Fine x) (fg : Fine g) (r s : ByteArray) (h : lineOf x ++ r = lineOf g ++ s) : x = g := by
  rcases Nat.lt_trichotomy (lnB x).size (lnB g).size with c | c | c
  · exact (line_low fx fg r s h c).elim
  · have e : lnB x = lnB g := by
      have h2 := h
      rw [line_nl, line_nl, ByteArray.append_assoc, ByteArray.append_assoc] at h2
      have := congrArg (fun b => b.extract 0 (lnB x).size) h2
      rw [ByteArray.extract_append_eq_left rfl, c, ByteArray.extract_append_eq_left rfl] at this
      exact this
    have h1 := (sig_there fx).1
    rw [e, (sig_there fg).1] at h1
    exact (Option.some.inj h1).symm
  · exact (line_low fg fx s r h.symm c).elim
theorem cut_yes (p l r : ByteArray) : (p ++ (l ++ r)).extract p.size (p.size + l.size) = l := by
  rw [← ByteArray.append_assoc]
  have e : ((p ++ l) ++ r).extract p.size (p.size + l.size) = (p ++ l).extract p.size (p.size + l.size) := by
    apply bs_inj
    rw [bs_extract _ _ _ (by omega) (by rw [ByteArray.size_append, ByteArray.size_append]; omega), bs_extract _ _ _ (by omega) (by rw [ByteArray.size_append]; omega), bs_two (p ++ l) r, List.take_append_of_le_length (by rw [bs_length, ByteArray.size_append]; omega)]
  rw [e]
  exact ByteArray.extract_append_eq_right rfl rfl
-- where another line stands it is not taken for this one
theorem cut_no {b p l s : ByteArray} (hb : b = p ++ s) (he : b.extract p.size (p.size + l.size) = l) (hl : p.size + l.size ≤ b.size) : ∃ r, s = l ++ r := by
  refine ⟨b.extract (p.size + l.size) b.size, ?_⟩
  have h1 : b.extract p.size b.size = s := by rw [hb]; exact ByteArray.extract_append_eq_right rfl (by rw [ByteArray.size_append])
  rw [← h1, ← he, ByteArray.extract_eq_extract_append_extract (a := b) (i := p.size) (k := b.size) (p.size + l.size) (by omega) (by omega), he]
theorem rg_at {w : World} {a : Option Addr} {n c : Nat} {l : List Sg} (h : ReadsG w (.slice a n c) l) (i : Nat) (g : Sg) (hi : l[i]? = some g) : ∃ b off, a = some ⟨b, off, none⟩ ∧ b < w.heap.size ∧ w.cell? ⟨b, off + i * 3, none⟩ = some (.string g.name) ∧ w.cell? ⟨b, off + i * 3 + 1, none⟩ = some (.string g.id) ∧ w.cell? ⟨b, off + i * 3 + 2, none⟩ = some (.string g.mac) := by
  have hl := (List.getElem?_eq_some_iff.1 hi).1
  obtain ⟨a', c', e, h0 | ⟨b, off, rfl, hb, hh⟩⟩ := h
  · omega
  · injection e with e1 _ _
    obtain ⟨h1, h2, h3⟩ := hh i g hi
    exact ⟨b, off, e1, hb, h1, h2, h3⟩
theorem line_len {g : Sg} (f : Fine g) : (lineOf g).size ≤ 118 ∧ (lineOf g).size ≠ 0 := by
  rw [line_size g f.id f.mac]
  have := nm_size f.nm
  omega
theorem box_o (w w' : World) (a b c : Value) (t : TypeId) (h : Below (w.heap.size + 1) (w.alloc (.cells #[a, b, c] t)) w') : w'.cell? ⟨w.heap.size, 0, none⟩ = some a ∧ w'.cell? ⟨w.heap.size, 1, none⟩ = some b ∧ w'.cell? ⟨w.heap.size, 2, none⟩ = some c := box3 w w' a b c t h
end Go.Proofs.YtfkpfmaphjeakaaDoor.x1

namespace Go.Proofs.YtfkpfmaphjeakaaDoor.x2
open Go.RowKit Go.PlainAid Go.Shelf
open Go.Proofs.YtfkpfmaphjeakaaDoor.pj Go.Proofs.YtfkpfmaphjeakaaDoor.mo Go.Proofs.YtfkpfmaphjeakaaDoor.nd Go.Proofs.YtfkpfmaphjeakaaDoor.nh Go.Proofs.YtfkpfmaphjeakaaDoor.ta Go.Proofs.YtfkpfmaphjeakaaDoor.tb Go.Proofs.YtfkpfmaphjeakaaDoor.tc Go.Proofs.YtfkpfmaphjeakaaDoor.tj Go.Proofs.YtfkpfmaphjeakaaDoor.n3 Go.Proofs.YtfkpfmaphjeakaaDoor.n4 Go.Proofs.YtfkpfmaphjeakaaDoor.o1 Go.Proofs.YtfkpfmaphjeakaaDoor.o3 Go.Proofs.YtfkpfmaphjeakaaDoor.o4 Go.Proofs.YtfkpfmaphjeakaaDoor.o5 Go.Proofs.YtfkpfmaphjeakaaDoor.o6 Go.Proofs.YtfkpfmaphjeakaaDoor.kp Go.Proofs.YtfkpfmaphjeakaaDoor.q2 Go.Proofs.YtfkpfmaphjeakaaDoor.t5 Go.Proofs.YtfkpfmaphjeakaaDoor.v2 Go.Proofs.YtfkpfmaphjeakaaDoor.v4 Go.Proofs.YtfkpfmaphjeakaaDoor.w1 Go.Proofs.YtfkpfmaphjeakaaDoor.x1
set_option linter.unusedVariables false
set_option maxRecDepth 4000

set_option maxHeartbeats 25600000 in
theorem mergedC (note body : ByteArray) (ks : List Ky) (gs go re : List Sg) (hn : note = noteOf body gs) (hM : opF ks body gs ([], []) = some (go, re)) (hf : ∀ g ∈ gs, Fine g) (h16 : gs.length ≤ 16) (zn : note.size ≤ 65536) (ga : Option Addr) (gc : Nat) (ra : Option Addr) (rc : Nat) (w : World) (hg : ReadsG w (.slice ga go.length gc) go) (hr : ReadsG w (.slice ra re.length rc) re) :
    Calls Tryd.prog 17 #[.string note, .agg #[.string body, .slice ga go.length gc, .slice ra re.length rc]] w fun e w' => e = .returned (.tuple #[.string note, .bool true]) ∧ Below w.heap.size w w' := by
  have HF : Hid (∀ g ∈ gs, Fine g) := hf
  have HNO : Hid (note = noteOf body gs) := hn
  have HG : Hid (ReadsG w (.slice ga go.length gc) go) := hg
  have HR : Hid (ReadsG w (.slice ra re.length rc) re) := hr
  have HALL : Hid ((∀ x ∈ go, x ∈ gs ∧ 0 ≤ ownF x ks 0) ∧ ∀ x ∈ re, x ∈ gs) := by
    obtain ⟨h1, h2⟩ := op_all ks body gs _ _ hM
    refine ⟨fun x hx => ?_, fun x hx => ?_⟩
    · rcases h1 x hx with h | ⟨h, h', _⟩
      · cases h
      · exact ⟨h, h'⟩
    · rcases h2 x hx with h | ⟨h, _⟩
      · cases h
      · exact h
  have HM0 : Hid (Mg ks body gs go re 0 0) := mg_zero hM
  have HZP : Hid (∀ t, t ≤ gs.length → (preB body gs t).size ≤ note.size) := fun t ht => by
    rw [HNO.out, pre_rest body gs t ht, ByteArray.size_append]; omega
  have zb : body.size ≤ 65536 := by have := HZP.out 0 (by omega); rw [pre_zero, ByteArray.size_append] at this; omega
  have hlen := mg_len HM0.out
  obtain ⟨N, HN⟩ : ∃ N, Hid (gs.length = N) := ⟨_, rfl⟩
  obtain ⟨ng, HNG⟩ : ∃ ng, Hid (go.length = ng) := ⟨_, rfl⟩
  obtain ⟨nr, HNR⟩ : ∃ nr, Hid (re.length = nr) := ⟨_, rfl⟩
  rw [HN.out] at h16 hlen
  rw [HNG.out] at hlen HG
  rw [HNR.out] at hlen HR
  rw [HNG.out, HNR.out]
  clear hf hn hg hr hM
  obtain ⟨W, HW⟩ : ∃ W, Hid (w.alloc (.cells #[.string body, .slice ga ng gc, .slice ra nr rc] 43) = W) := ⟨_, rfl⟩
  have BW : Hid (Below w.heap.size w W) := by rw [← HW.out]; exact (Below.refl _ _).alloc (Nat.le_refl _) _
  have zW : w.heap.size + 1 ≤ W.heap.size := by rw [← HW.out]; simp
  have SX : Hid (∀ w', Below (w.heap.size + 1) W w' → w'.cell? ⟨w.heap.size, 0, none⟩ = some (.string body) ∧ w'.cell? ⟨w.heap.size, 1, none⟩ = some (.slice ga ng gc) ∧ w'.cell? ⟨w.heap.size, 2, none⟩ = some (.slice ra nr rc)) := by
    rw [← HW.out]; exact fun w' h => box_o w w' _ _ _ _ h
  have DW : Hid (∀ w', Below (w.heap.size + 1) W w' → Below w.heap.size w w') := fun w' h => BW.out.trans (h.mono (by omega))
  obtain ⟨p, HPP⟩ : ∃ p, Hid (w.heap.size = p) := ⟨_, rfl⟩
  have HSG : Hid (∀ i x, go[i]? = some x → ∃ b off, ga = some ⟨b, off, none⟩ ∧ ∀ w', Below (p + 1) W w' → w'.cell? ⟨b, off + i * 3, none⟩ = some (.string x.name) ∧ w'.cell? ⟨b, off + i * 3 + 1, none⟩ = some (.string x.id) ∧ w'.cell? ⟨b, off + i * 3 + 2, none⟩ = some (.string x.mac)) := fun i x hi => by
    obtain ⟨b, off, e, hb, h1, h2, h3⟩ := rg_at HG.out i x hi
    refine ⟨b, off, e, fun w' h => ?_⟩
    rw [← HPP.out] at h
    have hw := DW.out w' h
    exact ⟨(hw.cell (p := ⟨b, off + i * 3, none⟩) hb).trans h1, (hw.cell (p := ⟨b, off + i * 3 + 1, none⟩) hb).trans h2, (hw.cell (p := ⟨b, off + i * 3 + 2, none⟩) hb).trans h3⟩
  have HSR : Hid (∀ i x, re[i]? = some x → ∃ b off, ra = some ⟨b, off, none⟩ ∧ ∀ w', Below (p + 1) W w' → w'.cell? ⟨b, off + i * 3, none⟩ = some (.string x.name) ∧ w'.cell? ⟨b, off + i * 3 + 1, none⟩ = some (.string x.id) ∧ w'.cell? ⟨b, off + i * 3 + 2, none⟩ = some (.string x.mac)) := fun i x hi => by
    obtain ⟨b, off, e, hb, h1, h2, h3⟩ := rg_at HR.out i x hi
    refine ⟨b, off, e, fun w' h => ?_⟩
    rw [← HPP.out] at h
    have hw := DW.out w' h
    exact ⟨(hw.cell (p := ⟨b, off + i * 3, none⟩) hb).trans h1, (hw.cell (p := ⟨b, off + i * 3 + 1, none⟩) hb).trans h2, (hw.cell (p := ⟨b, off + i * 3 + 2, none⟩) hb).trans h3⟩
  have CB : Hid (∀ x : Sg, Fine x → ∃ y : ByteArray, y.size ≤ 100 ∧ (⟨#[226, 128, 148, 32]⟩ ++ x.name ++ ⟨#[32]⟩ ++ y ++ ⟨#[10]⟩ : ByteArray) = lineOf x ∧ (∀ P : ByteArray, (P ++ ⟨#[226, 128, 148, 32]⟩ ++ x.name ++ ⟨#[32]⟩ ++ y ++ ⟨#[10]⟩ : ByteArray) = P ++ lineOf x) ∧ ∀ w, Calls Tryd.prog 23 #[.string (x.id ++ x.mac)] w fun e w' => e = .returned (.string y) ∧ Below w.heap.size w w') := fun x fx => by
    refine ⟨str (b64L (bs (x.id ++ x.mac))), ?_, rfl, fun P => ?_, fun w => b64 (x.id ++ x.mac) (by rw [ByteArray.size_append, fx.id, fx.mac]; omega) w⟩
    · rw [str_size, b64L_length, bs_length, ByteArray.size_append, fx.id, fx.mac]; omega
    · unfold lineOf dash
      simp only [ByteArray.append_assoc]
  obtain ⟨p0, p1, p2⟩ := SX.out W (Below.refl _ _)
  rw [HPP.out] at p0 p1 p2 SX
  have SX2 : Hid _ := SX.out
  have HPW : Hid (p + 1 ≤ W.heap.size) := by rw [← HPP.out]; exact zW
  clear HG HR SX zW
  have nlz : (⟨#[10]⟩ : ByteArray).size = 1 := rfl
  go_enter Tryd.func17, Tryd.ntmps17
  go_wp2_with fail
  (try rw [HPP.out])
  (try rw [HW.out])
  go_wp2
  go_loopw [6, 7, 8] (fun ov iv jv wr => ∃ i j : Nat, iv = .int .i64 i ∧ jv = .int .i64 j ∧ ov = .string (preB body gs (i + j)) ∧ Hid (Mg ks body gs go re i j ∧ Below (p + 1) W wr)) (fun _ iv jv _ => (N - intOf iv - intOf jv).toNat)
  case atStart => exact ⟨0, 0, rfl, rfl, (by rw [pre_zero]), HM0.out, Below.refl _ _⟩
  case round =>
    obtain ⟨i, j, rfl, rfl, rfl, HH⟩ := hrel
    have HMG : Hid (Mg ks body gs go re i j) := HH.out.1
    have HB : Hid (Below (p + 1) W wr) := HH.out.2
    have hij : i + j ≤ N := by rw [← HN.out]; exact HMG.out.hij
    have hin : i ≤ ng := by rw [← HNG.out]; exact HMG.out.hi
    have hjn : j ≤ nr := by rw [← HNR.out]; exact HMG.out.hj
    have zP := HZP.out (i + j) (by rw [HN.out]; exact hij)
    obtain ⟨P, HP⟩ : ∃ P, Hid (preB body gs (i + j) = P) := ⟨_, rfl⟩
    rw [HP.out] at zP ⊢
    clear HH p0 p1 p2
    obtain ⟨p0, p1, p2⟩ := SX2.out wr HB.out
    by_cases hlt : i + j < N
    · have hlg : i + j < gs.length := by rw [HN.out]; exact hlt
      have hpr := pre_rest1 body gs (i + j) hlg
      have hps := pre_step body gs (i + j) hlg
      rw [HP.out] at hpr hps
      have hfg := HF.out _ (List.getElem_mem hlg)
      have hnx := mg_next HMG.out hlg
      obtain ⟨g, HGG⟩ : ∃ g, Hid (gs[i + j]'hlg = g) := ⟨_, rfl⟩
      rw [HGG.out] at hpr hps hfg hnx
      have HPR : Hid (note = P ++ (lineOf g ++ flatB ((gs.drop (i + j + 1)).map lineOf))) := by show _ = _; rw [HNO.out]; exact hpr
      have HPS : Hid (preB body gs (i + j + 1) = P ++ lineOf g) := hps
      have HFG : Hid (Fine g) := hfg
      clear hpr hps hfg HGG
      rcases hnx with ⟨hown, ⟨hi1, hgi⟩, hm1⟩ | ⟨hown, ⟨hj1, hrj⟩, hm1⟩
      · have hing : i < ng := by rw [← HNG.out]; exact hi1
        have hing' : (i : Int) < ng := by omega
        have HM1 : Hid _ := hm1
        obtain ⟨b, off, rfl, hcl⟩ := HSG.out i g (by rw [List.getElem?_eq_getElem hi1, hgi])
        have HCL : Hid _ := hcl
        obtain ⟨y, zy, hL, _, hC⟩ := CB.out g HFG.out
        have C1 : Hid (∀ w, Calls _ _ _ _ _) := hC
        have zL := line_len HFG.out
        have hcut : note.extract P.size (P.size + (lineOf g).size) = lineOf g := by rw [HPR.out]; exact cut_yes _ _ _
        have hle : P.size + (lineOf g).size ≤ note.size := by rw [HPR.out, ByteArray.size_append, ByteArray.size_append]; omega
        have zgn := nm_size HFG.out.nm
        have zgi := HFG.out.id
        have zgm := HFG.out.mac
        obtain ⟨L, HL⟩ : ∃ L, Hid (lineOf g = L) := ⟨_, rfl⟩
        rw [HL.out] at hL zL hcut hle HPS
        clear hm1 hgi hcl hC hown HPR HFG
        obtain ⟨gn, gi, gm⟩ := g
        simp only at hL zgn zgi zgm C1 HCL
        obtain ⟨q, HQ⟩ : ∃ q, Hid (gi ++ gm = q) := ⟨_, rfl⟩
        rw [HQ.out] at C1
        have hq := HQ.out
        obtain ⟨c1, c2, c3⟩ := HCL.out wr HB.out
        have DN : Hid (Below wr.heap.size wr wr.drew) := Go.Proofs.YtfkpfmaphjeakaaDoor.tj.below_dN (Below.refl _ _) 1
        have B0 : Hid (Below (p + 1) W wr.drew) := Go.Proofs.YtfkpfmaphjeakaaDoor.tj.below_dN HB.out 1
        have SY : Hid (∀ w', Below (p + 1) W w' → w'.cell? ⟨p, 1, none⟩ = some (.slice (some ⟨b, off, none⟩) ng gc) ∧ w'.cell? ⟨b, off + i * 3, none⟩ = some (.string gn) ∧ w'.cell? ⟨b, off + i * 3 + 1, none⟩ = some (.string gi) ∧ w'.cell? ⟨b, off + i * 3 + 2, none⟩ = some (.string gm)) := fun w' h => ⟨(SX2.out w' h).2.1, HCL.out w' h⟩
        go_wp2_with fail
        go_region_held_law (fun w' => w'.cell? ⟨p, 1, none⟩ = some (.slice (some ⟨b, off, none⟩) ng gc) ∧ w'.cell? ⟨b, off + i * 3, none⟩ = some (.string gn) ∧ w'.cell? ⟨b, off + i * 3 + 1, none⟩ = some (.string gi) ∧ w'.cell? ⟨b, off + i * 3 + 2, none⟩ = some (.string gm)) (first | exact SY.out _ B0.out | exact SY.out _ B1.out) ((go_at_call 23; refine (C1.out _).mono ?_; rintro _ w1 ⟨rfl, k1⟩; have B1 : Hid (Below (p + 1) W w1) := (B0.out.trans (k1.mono (Nat.le_trans HPW.out B0.out.size))); clear k1))
        all_goals (
          (try rw [hL])
          obtain ⟨e1, e2⟩ := ne_empty L zL.2
          have e3 : (P.size : Int) + (L.size : Int) ≤ note.size := by omega
          have e4 : ((P.size : Int) + (L.size : Int)).toNat = P.size + L.size := by omega
          have e5 : (L.toList == L.toList) = true := by simp
          have e6 : (P.size : Int) ≤ (P.size : Int) + (L.size : Int) := by omega
          have e7 : (0 : Int) ≤ (P.size : Int) := by omega
          have zPL : (P ++ L).size = P.size + L.size := ByteArray.size_append
          clear c1 c2 c3 hq zgi zgm hL
          go_wp2
          go_roundw
          case rel => exact ⟨i + 1, j, by first | rfl | go_num, rfl, (by rw [show i + 1 + j = i + j + 1 by omega, HPS.out]), HM1.out, B1.out⟩
          case measure => simp [intOf]; omega)
      · have hjnr : j < nr := by rw [← HNR.out]; exact hj1
        have hjnr' : (j : Int) < nr := by omega
        have hjnr2 : ¬ ((j : Int) ≥ nr) := by omega
        have HM1 : Hid _ := hm1
        have hgnx : ∀ x ∈ go, x ≠ g := fun x hx e => by
          have := (HALL.out.1 x hx).2
          rw [e] at this
          omega
        have HGX : Hid _ := hgnx
        obtain ⟨rb, roff, rfl, hcl⟩ := HSR.out j g (by rw [List.getElem?_eq_getElem hj1, hrj])
        have HCL : Hid _ := hcl
        obtain ⟨y, zy, _, hLP, hC⟩ := CB.out g HFG.out
        have hL := hLP P
        have C1 : Hid (∀ w, Calls _ _ _ _ _) := hC
        have zL := line_len HFG.out
        have zgn := nm_size HFG.out.nm
        have zgi := HFG.out.id
        have zgm := HFG.out.mac
        have hle0 : P.size + (lineOf g).size ≤ note.size := by rw [HPR.out, ByteArray.size_append, ByteArray.size_append]; omega
        obtain ⟨L, HL⟩ : ∃ L, Hid (lineOf g = L) := ⟨_, rfl⟩
        clear hm1 hrj hcl hC hown hgnx hLP
        have HNL : Hid (∀ x ∈ go, ∀ s, note = P ++ (lineOf x ++ s) → False) := fun x hx s hs => by
          rw [HPR.out] at hs
          have e := ByteArray.append_right_inj P |>.1 hs
          exact HGX.out x hx (line_pre (HF.out x (HALL.out.1 x hx).1) HFG.out _ _ e.symm)
        clear HPR HFG
        obtain ⟨gn, gi, gm⟩ := g
        simp only at hL zgn zgi zgm C1 HCL
        obtain ⟨q, HQ⟩ : ∃ q, Hid (gi ++ gm = q) := ⟨_, rfl⟩
        rw [HQ.out] at C1
        have hq := HQ.out
        have SZ : Hid (∀ w', Below (p + 1) W w' → w'.cell? ⟨p, 2, none⟩ = some (.slice (some ⟨rb, roff, none⟩) nr rc) ∧ w'.cell? ⟨rb, roff + j * 3, none⟩ = some (.string gn) ∧ w'.cell? ⟨rb, roff + j * 3 + 1, none⟩ = some (.string gi) ∧ w'.cell? ⟨rb, roff + j * 3 + 2, none⟩ = some (.string gm)) := fun w' h => ⟨(SX2.out w' h).2.2, HCL.out w' h⟩
        by_cases hing : i < ng
        · have hing' : (i : Int) < ng := by omega
          have hi1 : i < go.length := by rw [HNG.out]; exact hing
          obtain ⟨x, HX⟩ : ∃ x, Hid (go[i]'hi1 = x) := ⟨_, rfl⟩
          have hxm : x ∈ go := by rw [← HX.out]; exact List.getElem_mem hi1
          have fx := HF.out x (HALL.out.1 x hxm).1
          have HNX : Hid _ := HNL.out x hxm
          obtain ⟨b, off, rfl, hcx⟩ := HSG.out i x (by rw [List.getElem?_eq_getElem hi1, HX.out])
          have HCX : Hid _ := hcx
          obtain ⟨yx, zyx, hLx, _, hCx⟩ := CB.out x fx
          have C2 : Hid (∀ w, Calls _ _ _ _ _) := hCx
          have zLx := line_len fx
          have zxn := nm_size fx.nm
          have zxi := fx.id
          have zxm := fx.mac
          have HPE : Hid (note = P ++ note.extract P.size note.size) := by
            show _ = _
            have e1 := pre_rest body gs (i + j) (by rw [HN.out]; exact hij)
            rw [HP.out, ← HNO.out] at e1
            conv => lhs; rw [e1]
            congr 1
            rw [e1]
            exact (ByteArray.extract_append_eq_right rfl (by rw [ByteArray.size_append])).symm
          obtain ⟨M, HMM⟩ : ∃ M, Hid (lineOf x = M) := ⟨_, rfl⟩
          have hcs : ¬ (P.size : Int) + (M.size : Int) ≤ note.size ∨ ((P.size : Int) + (M.size : Int) ≤ note.size ∧ ((note.extract P.size (P.size + M.size)).toList == M.toList) = false) := by
            by_cases hc : P.size + M.size ≤ note.size
            · right
              refine ⟨by omega, ?_⟩
              rw [toList_eqB]
              unfold eqB
              refine decide_eq_false (fun e => ?_)
              obtain ⟨r, hr⟩ := cut_no HPE.out e hc
              refine HNX.out r ?_
              rw [HMM.out, ← hr]
              exact HPE.out
            · left; omega
          rw [HMM.out] at hLx zLx
          clear hcx hCx fx hxm HX HPE HNX
          obtain ⟨xn, xi, xm⟩ := x
          simp only at hLx zxn zxi zxm C2 HCX
          obtain ⟨qx, HQX⟩ : ∃ qx, Hid (xi ++ xm = qx) := ⟨_, rfl⟩
          rw [HQX.out] at C2
          have hqx := HQX.out
          have B0 : Hid (Below (p + 1) W wr.drew) := Go.Proofs.YtfkpfmaphjeakaaDoor.tj.below_dN HB.out 1
          have SY : Hid (∀ w', Below (p + 1) W w' → w'.cell? ⟨p, 1, none⟩ = some (.slice (some ⟨b, off, none⟩) ng gc) ∧ w'.cell? ⟨b, off + i * 3, none⟩ = some (.string xn) ∧ w'.cell? ⟨b, off + i * 3 + 1, none⟩ = some (.string xi) ∧ w'.cell? ⟨b, off + i * 3 + 2, none⟩ = some (.string xm)) := fun w' h => ⟨(SX2.out w' h).2.1, HCX.out w' h⟩
          obtain ⟨e1, e2⟩ := ne_empty M zLx.2
          have e4 : ((P.size : Int) + (M.size : Int)).toNat = P.size + M.size := by omega
          have e6 : (P.size : Int) ≤ (P.size : Int) + (M.size : Int) := by omega
          have e7 : (0 : Int) ≤ (P.size : Int) := by omega
          go_wp2_with fail
          go_cut [9] from 14 to 116 (fun cc wx => cc = .string M ∧ Hid (Below (p + 1) W wx))
          case first =>
            go_region_held_law (fun w' => w'.cell? ⟨p, 1, none⟩ = some (.slice (some ⟨b, off, none⟩) ng gc) ∧ w'.cell? ⟨b, off + i * 3, none⟩ = some (.string xn) ∧ w'.cell? ⟨b, off + i * 3 + 1, none⟩ = some (.string xi) ∧ w'.cell? ⟨b, off + i * 3 + 2, none⟩ = some (.string xm)) (first | exact SY.out _ B0.out | exact SY.out _ B1.out) ((go_at_call 23; refine (C2.out _).mono ?_; rintro _ w1 ⟨rfl, k1⟩; have B1 : Hid (Below (p + 1) W w1) := (B0.out.trans (k1.mono (Nat.le_trans HPW.out B0.out.size))); clear k1))
            all_goals (
              go_wp2
              go_meet
              exact ⟨by first | rfl | (rw [hLx]; try rfl), B1.out⟩)
          case rest =>
            obtain ⟨rfl, B1⟩ := hcut
            have B02 : Hid (Below (p + 1) W wc.drew) := Go.Proofs.YtfkpfmaphjeakaaDoor.tj.below_dN B1.out 1
            clear hqx zxi zxm hLx p0 p1 p2
            obtain ⟨t0, t1, t2⟩ := SX2.out wc B1.out
            rcases hcs with h1 | ⟨h1, h2⟩
            · go_wp2_with fail
              go_region_held_law (fun w' => w'.cell? ⟨p, 2, none⟩ = some (.slice (some ⟨rb, roff, none⟩) nr rc) ∧ w'.cell? ⟨rb, roff + j * 3, none⟩ = some (.string gn) ∧ w'.cell? ⟨rb, roff + j * 3 + 1, none⟩ = some (.string gi) ∧ w'.cell? ⟨rb, roff + j * 3 + 2, none⟩ = some (.string gm)) (first | exact SZ.out _ B02.out | exact SZ.out _ B2.out) ((go_at_call 23; refine (C1.out _).mono ?_; rintro _ w2 ⟨rfl, k2⟩; have B2 : Hid (Below (p + 1) W w2) := (B02.out.trans (k2.mono (Nat.le_trans HPW.out B02.out.size))); clear k2))
              all_goals (
                (try rw [hL])
                clear hq zgi zgm hL
                go_wp2
                go_roundw
                case rel => exact ⟨i, j + 1, rfl, by first | rfl | go_num, (by rw [show i + (j + 1) = i + j + 1 by omega, HPS.out, HL.out]), HM1.out, B2.out⟩
                case measure => simp [intOf]; omega)
            · go_wp2_with fail
              go_region_held_law (fun w' => w'.cell? ⟨p, 2, none⟩ = some (.slice (some ⟨rb, roff, none⟩) nr rc) ∧ w'.cell? ⟨rb, roff + j * 3, none⟩ = some (.string gn) ∧ w'.cell? ⟨rb, roff + j * 3 + 1, none⟩ = some (.string gi) ∧ w'.cell? ⟨rb, roff + j * 3 + 2, none⟩ = some (.string gm)) (first | exact SZ.out _ B02.out | exact SZ.out _ B2.out) ((go_at_call 23; refine (C1.out _).mono ?_; rintro _ w2 ⟨rfl, k2⟩; have B2 : Hid (Below (p + 1) W w2) := (B02.out.trans (k2.mono (Nat.le_trans HPW.out B02.out.size))); clear k2))
              all_goals (
                (try rw [hL])
                clear hq zgi zgm hL
                go_wp2
                go_roundw
                case rel => exact ⟨i, j + 1, rfl, by first | rfl | go_num, (by rw [show i + (j + 1) = i + j + 1 by omega, HPS.out, HL.out]), HM1.out, B2.out⟩
                case measure => simp [intOf]; omega)
        · have hing' : ¬ (i : Int) < ng := by omega
          have B02 : Hid (Below (p + 1) W wr.drew) := Go.Proofs.YtfkpfmaphjeakaaDoor.tj.below_dN HB.out 1
          go_wp2_with fail
          go_region_held_law (fun w' => w'.cell? ⟨p, 2, none⟩ = some (.slice (some ⟨rb, roff, none⟩) nr rc) ∧ w'.cell? ⟨rb, roff + j * 3, none⟩ = some (.string gn) ∧ w'.cell? ⟨rb, roff + j * 3 + 1, none⟩ = some (.string gi) ∧ w'.cell? ⟨rb, roff + j * 3 + 2, none⟩ = some (.string gm)) (first | exact SZ.out _ B02.out | exact SZ.out _ B2.out) ((go_at_call 23; refine (C1.out _).mono ?_; rintro _ w2 ⟨rfl, k2⟩; have B2 : Hid (Below (p + 1) W w2) := (B02.out.trans (k2.mono (Nat.le_trans HPW.out B02.out.size))); clear k2))
          all_goals (
            (try rw [hL])
            clear hq zgi zgm hL
            go_wp2
            go_roundw
            case rel => exact ⟨i, j + 1, rfl, by first | rfl | go_num, (by rw [show i + (j + 1) = i + j + 1 by omega, HPS.out, HL.out]), HM1.out, B2.out⟩
            case measure => simp [intOf]; omega)
    · have e : i + j = gs.length := by rw [HN.out]; omega
      obtain ⟨h1, h2⟩ := mg_end HMG.out e
      rw [HNG.out] at h1
      rw [HNR.out] at h2
      have hP : P = note := by rw [← HP.out, e, pre_all]; exact HNO.out.symm
      have g1 : ¬ (i : Int) < ng := by omega
      have g2 : ¬ (j : Int) < nr := by omega
      have g3 : (note.toList == note.toList) = true := by simp
      clear e h1 h2 HP
      subst hP
      go_wp2
      go_ret2
      exact ⟨rfl, DW.out _ (by rw [HPP.out]; exact HB.out)⟩
end Go.Proofs.YtfkpfmaphjeakaaDoor.x2

namespace Go.Proofs.YtfkpfmaphjeakaaDoor.x3
open Go.RowKit Go.PlainAid Go.Shelf
open Go.Proofs.YtfkpfmaphjeakaaDoor.pj Go.Proofs.YtfkpfmaphjeakaaDoor.mo Go.Proofs.YtfkpfmaphjeakaaDoor.nd Go.Proofs.YtfkpfmaphjeakaaDoor.nh Go.Proofs.YtfkpfmaphjeakaaDoor.tb Go.Proofs.YtfkpfmaphjeakaaDoor.tc Go.Proofs.YtfkpfmaphjeakaaDoor.tj Go.Proofs.YtfkpfmaphjeakaaDoor.n3 Go.Proofs.YtfkpfmaphjeakaaDoor.n4 Go.Proofs.YtfkpfmaphjeakaaDoor.o1 Go.Proofs.YtfkpfmaphjeakaaDoor.o5 Go.Proofs.YtfkpfmaphjeakaaDoor.o6 Go.Proofs.YtfkpfmaphjeakaaDoor.kp Go.Proofs.YtfkpfmaphjeakaaDoor.v2 Go.Proofs.YtfkpfmaphjeakaaDoor.x1
set_option linter.unusedVariables false
set_option maxRecDepth 4000
set_option linter.unusedSimpArgs false

set_option maxHeartbeats 12800000 in
theorem ownedC (ks : List Ky) (g : Sg) (t : ByteArray) (i0 : Nat) (h0 : i0 < ks.length) (hk : kg (ks[i0]'h0) g = true) (hm : g.mac = macF (ks[i0]'h0).2 t) (v : Value) (w : World) (hr : ReadsY w v ks) (hz : ks.length ≤ 4398046511104) (hs : ∀ k ∈ ks, k.1.size ≤ 140737488351232 ∧ k.2.size ≤ 140737488351232) (zt : t.size ≤ 140737488351232) (T : Hid (Tab w)) :
    Calls Tryd.prog 18 #[v, .agg #[.string g.name, .string g.id, .string g.mac], .string t] w fun e w' => e = .returned (.bool true) ∧ Below w.heap.size w w' := by
  obtain ⟨a, c, rfl, _⟩ := id hr
  have HR : Hid (ReadsY w (.slice a ks.length c) ks) := hr
  have HS : Hid _ := hs
  have HK0 : Hid (kg (ks[i0]'h0) g = true ∧ g.mac = macF (ks[i0]'h0).2 t) := ⟨hk, hm⟩
  obtain ⟨n, HN⟩ : ∃ n, Hid (ks.length = n) := ⟨_, rfl⟩
  have hin : i0 < n := by rw [← HN.out]; exact h0
  rw [HN.out] at hz ⊢
  clear hr hs hk hm
  obtain ⟨gn, gi, gm⟩ := g
  simp only at HK0 ⊢
  obtain ⟨W, HW⟩ : ∃ W, Hid (w.alloc (.cells #[.string gn, .string gi, .string gm] 53) = W) := ⟨_, rfl⟩
  have BW : Hid (Below w.heap.size w W) := by rw [← HW.out]; exact (Below.refl _ _).alloc (Nat.le_refl _) _
  have zW : w.heap.size + 1 ≤ W.heap.size := by rw [← HW.out]; simp
  have SB : Hid (∀ w', Below (w.heap.size + 1) W w' → w'.cell? ⟨w.heap.size, 0, none⟩ = some (.string gn) ∧ w'.cell? ⟨w.heap.size, 1, none⟩ = some (.string gi) ∧ w'.cell? ⟨w.heap.size, 2, none⟩ = some (.string gm)) := by
    rw [← HW.out]; exact fun w' h => box_o w w' _ _ _ _ h
  have DW : Hid (∀ w', Below (w.heap.size + 1) W w' → Below w.heap.size w w') := fun w' h => BW.out.trans (h.mono (by omega))
  have TT : Hid (∀ w', Below (w.heap.size + 1) W w' → Tab w') := fun w' h => T.out.down (DW.out w' h)
  obtain ⟨p, HPP⟩ : ∃ p, Hid (w.heap.size = p) := ⟨_, rfl⟩
  have HSK : Hid (∀ i x, ks[i]? = some x → ∃ b off, a = some ⟨b, off, none⟩ ∧ ∀ w', Below (p + 1) W w' → w'.cell? ⟨b, off + i * 2, none⟩ = some (.string x.1) ∧ w'.cell? ⟨b, off + i * 2 + 1, none⟩ = some (.string x.2)) := fun i x hi => by
    obtain ⟨b, off, e, hb, h1, h2⟩ := HR.out.at i x hi
    refine ⟨b, off, e, fun w' h => ?_⟩
    rw [← HPP.out] at h
    have hw := DW.out w' h
    exact ⟨(hw.cell (p := ⟨b, off + i * 2, none⟩) hb).trans h1, (hw.cell (p := ⟨b, off + i * 2 + 1, none⟩) hb).trans h2⟩
  have FIN : Hid (∀ w', Below (p + 1) W w' → Below w.heap.size w w') := fun w' h => DW.out w' (by rw [HPP.out]; exact h)
  have HPW : Hid (p + 1 ≤ W.heap.size) := by rw [← HPP.out]; exact zW
  rw [HPP.out] at SB TT
  clear zW DW
  go_enter Tryd.func18, Tryd.ntmps18
  go_wp2_with fail
  (try rw [HPP.out])
  (try rw [HW.out])
  go_wp2
  go_loopw [7] (fun iv wr => ∃ k : Nat, k ≤ i0 ∧ iv = .int .i64 k ∧ Hid (Below (p + 1) W wr)) (fun iv _ => (n - intOf iv).toNat)
  case atStart => exact ⟨0, by omega, rfl, Below.refl _ _⟩
  case round =>
    obtain ⟨k, hk, rfl, HB⟩ := hrel
    have hkn : k < n := by omega
    have hkn' : (k : Int) < n := by omega
    have hkl : k < ks.length := by rw [HN.out]; exact hkn
    obtain ⟨y, HY⟩ : ∃ y, Hid (ks[k]'hkl = y) := ⟨_, rfl⟩
    obtain ⟨b, off, rfl, hcl⟩ := HSK.out k y (by rw [List.getElem?_eq_getElem hkl, HY.out])
    have hyz : y.1.size ≤ 140737488351232 ∧ y.2.size ≤ 140737488351232 := by rw [← HY.out]; exact HS.out _ (List.getElem_mem hkl)
    have HNE : Hid ((eqB y.1 gn && eqB (kidF y.1 y.2) gi && eqB (macF y.2 t) gm) = false → k + 1 ≤ i0) := fun h => by
      rcases Nat.lt_or_ge k i0 with g | g
      · exact g
      · exfalso
        have e : k = i0 := by omega
        subst e
        obtain ⟨h1, h2⟩ := HK0.out
        rw [HY.out] at h1 h2
        unfold kg one at h1
        rw [Bool.and_eq_true, eqB_true, eqB_true] at h1
        have e1 : eqB y.1 gn = true := eqB_true.2 h1.1.symm
        have e2 : eqB (kidF y.1 y.2) gi = true := eqB_true.2 h1.2.symm
        have e3 : eqB (macF y.2 t) gm = true := eqB_true.2 h2.symm
        rw [e1, e2, e3] at h
        cases h
    obtain ⟨kn, kx⟩ := y
    simp only at hcl hyz HNE
    have SX : Hid (∀ w', Below (p + 1) W w' → w'.cell? ⟨p, 0, none⟩ = some (.string gn) ∧ w'.cell? ⟨p, 1, none⟩ = some (.string gi) ∧ w'.cell? ⟨p, 2, none⟩ = some (.string gm) ∧ w'.cell? ⟨b, off + k * 2, none⟩ = some (.string kn) ∧ w'.cell? ⟨b, off + k * 2 + 1, none⟩ = some (.string kx)) := fun w' h => ⟨(SB.out w' h).1, (SB.out w' h).2.1, (SB.out w' h).2.2, hcl w' h⟩
    have C1 : Hid (∀ w, Tab w → Calls _ _ _ _ _) := fun w T => keyID kn kx w hyz.1 hyz.2 T
    have C2 : Hid (∀ w, Tab w → Calls _ _ _ _ _) := fun w T => macSum kx t w (by omega) (by omega) T
    obtain ⟨x, HX⟩ : ∃ x, Hid (kidF kn kx = x) := ⟨_, rfl⟩
    obtain ⟨z, HZ⟩ : ∃ z, Hid (macF kx t = z) := ⟨_, rfl⟩
    rw [HX.out] at C1 HNE
    rw [HZ.out] at C2 HNE
    have q1 : (kn.toList == gn.toList) = eqB kn gn := toList_eqB _ _
    have q2 : (x.toList == gi.toList) = eqB x gi := toList_eqB _ _
    have q3 : (z.toList == gm.toList) = eqB z gm := toList_eqB _ _
    obtain ⟨b1, h1⟩ : ∃ b1, eqB kn gn = b1 := ⟨_, rfl⟩
    obtain ⟨b2, h2⟩ : ∃ b2, eqB x gi = b2 := ⟨_, rfl⟩
    obtain ⟨b3, h3⟩ : ∃ b3, eqB z gm = b3 := ⟨_, rfl⟩
    rw [h1] at q1 HNE
    rw [h2] at q2 HNE
    rw [h3] at q3 HNE
    have D0 : Hid (Below (p + 1) W wr.drew) := Go.Proofs.YtfkpfmaphjeakaaDoor.tj.below_dN HB.out 1
    have DN : Hid (∀ n, Below (p + 1) W (wr.drewN n)) := fun n => Go.Proofs.YtfkpfmaphjeakaaDoor.tj.below_dN HB.out n
    obtain ⟨p0, p1, p2, c1, c2⟩ := SX.out wr HB.out
    clear hcl HX HZ h1 h2 h3
    cases b1
    · have hk1 := HNE.out rfl
      go_wp2_with fail
      go_quiet (fail)
      go_wp2
      go_roundw
      case rel => exact ⟨k + 1, hk1, by first | rfl | go_num, DN.out _⟩
      case measure => simp [intOf]; omega
    · cases b2
      · have hk1 := HNE.out (by cases b3 <;> rfl)
        go_wp2_with fail
        go_cut [49] from 8 to 50 (fun cc wx => cc = .bool false ∧ Hid (Below (p + 1) W wx))
        case first =>
            refine wp_region_held_drew (S := fun w' => w'.cell? ⟨p, 0, none⟩ = some (.string gn) ∧ w'.cell? ⟨p, 1, none⟩ = some (.string gi) ∧ w'.cell? ⟨p, 2, none⟩ = some (.string gm) ∧ w'.cell? ⟨b, off + k * 2, none⟩ = some (.string kn) ∧ w'.cell? ⟨b, off + k * 2 + 1, none⟩ = some (.string kx)) (by kernel_rfl) ?_ (fun hHeld => ?_)
            · exact SX.out _ D0.out
            refine wpAnyH_take (i := 0) (oi := { dst := some 14, op := _, type := _, pos := _, after := _, guard := _ }) (v := ?v0) rfl (by kernel_rfl) (by kernel_rfl) (by kernel_rfl) (fun _ _ _ h => h) (Or.inl ⟨by kernel_rfl, ?hy0⟩) (by assumption) ?rest0
            case hy0 => (intro w hSw; (try dsimp only at hSw); go_simp; all_goals (try with_reducible rfl))
            case rest0 =>
            (try simp only [Act.put, List.setIfInBounds_toArray, List.set_cons_zero, List.set_cons_succ])
            refine wpAnyH_take (i := 1) (oi := { dst := some 15, op := _, type := _, pos := _, after := _, guard := _ }) (v := ?v1) rfl (by kernel_rfl) (by kernel_rfl) (by kernel_rfl) (fun _ _ _ h => h) (Or.inl ⟨by kernel_rfl, ?hy1⟩) (by assumption) ?rest1
            case hy1 => (intro w hSw; (try dsimp only at hSw); go_simp; all_goals (try with_reducible rfl))
            case rest1 =>
            (try simp only [Act.put, List.setIfInBounds_toArray, List.set_cons_zero, List.set_cons_succ])
            refine wpAnyH_take (i := 2) (oi := { dst := some 16, op := _, type := _, pos := _, after := _, guard := _ }) (v := ?v2) rfl (by kernel_rfl) (by kernel_rfl) (by kernel_rfl) (fun _ _ _ h => h) (Or.inl ⟨by kernel_rfl, ?hy2⟩) (by assumption) ?rest2
            case hy2 => (intro w hSw; (try dsimp only at hSw); go_simp; all_goals (try with_reducible rfl))
            case rest2 =>
            (try simp only [Act.put, List.setIfInBounds_toArray, List.set_cons_zero, List.set_cons_succ])
            refine wpAnyH_take (i := 3) (oi := { dst := some 17, op := _, type := _, pos := _, after := _, guard := _ }) (v := ?v3) rfl (by kernel_rfl) (by kernel_rfl) (by kernel_rfl) (fun _ _ _ h => h) (Or.inl ⟨by kernel_rfl, ?hy3⟩) (by assumption) ?rest3
            case hy3 => (intro w hSw; (try dsimp only at hSw); go_simp; all_goals (try with_reducible rfl))
            case rest3 =>
            (try simp only [Act.put, List.setIfInBounds_toArray, List.set_cons_zero, List.set_cons_succ])
            refine wpAnyH_take (i := 4) (oi := { dst := some 18, op := _, type := _, pos := _, after := _, guard := _ }) (v := ?v4) rfl (by kernel_rfl) (by kernel_rfl) (by kernel_rfl) (fun _ _ _ h => h) (Or.inl ⟨by kernel_rfl, ?hy4⟩) (by assumption) ?rest4
            case hy4 => (intro w hSw; (try dsimp only at hSw); go_simp; all_goals (try with_reducible rfl))
            case rest4 =>
            (try simp only [Act.put, List.setIfInBounds_toArray, List.set_cons_zero, List.set_cons_succ])
            refine wpAnyH_take (i := 5) (oi := { dst := some 19, op := _, type := _, pos := _, after := _, guard := _ }) (v := ?v5) rfl (by kernel_rfl) (by kernel_rfl) (by kernel_rfl) (fun _ _ _ h => h) (Or.inl ⟨by kernel_rfl, ?hy5⟩) (by assumption) ?rest5
            case hy5 => (intro w hSw; (try dsimp only at hSw); go_simp; all_goals (try with_reducible rfl))
            case rest5 =>
            (try simp only [Act.put, List.setIfInBounds_toArray, List.set_cons_zero, List.set_cons_succ])
            refine wpAnyH_take (i := 6) (oi := { dst := some 20, op := _, type := _, pos := _, after := _, guard := _ }) (v := ?v6) rfl (by kernel_rfl) (by kernel_rfl) (by kernel_rfl) (fun _ _ _ h => h) (Or.inl ⟨by kernel_rfl, ?hy6⟩) (by assumption) ?rest6
            case hy6 => (intro w hSw; (try dsimp only at hSw); go_simp; all_goals (try with_reducible rfl))
            case rest6 =>
            (try simp only [Act.put, List.setIfInBounds_toArray, List.set_cons_zero, List.set_cons_succ])
            refine wpAnyH_take (i := 7) (oi := { dst := some 21, op := _, type := _, pos := _, after := _, guard := _ }) (v := ?v7) rfl (by kernel_rfl) (by kernel_rfl) (by kernel_rfl) (fun _ _ _ h => h) (Or.inl ⟨by kernel_rfl, ?hy7⟩) (by assumption) ?rest7
            case hy7 => (intro w hSw; (try dsimp only at hSw); go_simp; all_goals (try with_reducible rfl))
            case rest7 =>
            (try simp only [Act.put, List.setIfInBounds_toArray, List.set_cons_zero, List.set_cons_succ])
            refine wpAnyH_take (i := 8) (oi := { dst := some 22, op := _, type := _, pos := _, after := _, guard := _ }) (v := ?v8) rfl (by kernel_rfl) (by kernel_rfl) (by kernel_rfl) (fun _ _ _ h => h) (Or.inl ⟨by kernel_rfl, ?hy8⟩) (by assumption) ?rest8
            case hy8 => (intro w hSw; (try dsimp only at hSw); go_simp; all_goals (try with_reducible rfl))
            case rest8 =>
            (try simp only [Act.put, List.setIfInBounds_toArray, List.set_cons_zero, List.set_cons_succ])
            refine wpAnyH_take (i := 9) (oi := { dst := some 23, op := _, type := _, pos := _, after := _, guard := _ }) (v := ?v9) rfl (by kernel_rfl) (by kernel_rfl) (by kernel_rfl) (fun _ _ _ h => h) (Or.inl ⟨by kernel_rfl, ?hy9⟩) (by assumption) ?rest9
            case hy9 => (intro w hSw; (try dsimp only at hSw); go_simp; all_goals (try with_reducible rfl))
            case rest9 =>
            (try simp only [Act.put, List.setIfInBounds_toArray, List.set_cons_zero, List.set_cons_succ])
            refine wpAnyH_take (i := 10) (oi := { dst := some 24, op := _, type := _, pos := _, after := _, guard := _ }) (v := ?v10) rfl (by kernel_rfl) (by kernel_rfl) (by kernel_rfl) (fun _ _ _ h => h) (Or.inl ⟨by kernel_rfl, ?hy10⟩) (by assumption) ?rest10
            case hy10 => (intro w hSw; (try dsimp only at hSw); go_simp; all_goals (try with_reducible rfl))
            case rest10 =>
            (try simp only [Act.put, List.setIfInBounds_toArray, List.set_cons_zero, List.set_cons_succ])
            refine wpAnyH_take (i := 11) (oi := { dst := some 25, op := _, type := _, pos := _, after := _, guard := _ }) (v := ?v11) rfl (by kernel_rfl) (by kernel_rfl) (by kernel_rfl) (fun _ _ _ h => h) (Or.inl ⟨by kernel_rfl, ?hy11⟩) (by assumption) ?rest11
            case hy11 => (intro w hSw; (try dsimp only at hSw); go_simp; all_goals (try with_reducible rfl))
            case rest11 =>
            (try simp only [Act.put, List.setIfInBounds_toArray, List.set_cons_zero, List.set_cons_succ])
            refine wpAnyH_take (i := 12) (oi := { dst := some 26, op := _, type := _, pos := _, after := _, guard := _ }) (v := ?v12) rfl (by kernel_rfl) (by kernel_rfl) (by kernel_rfl) (fun _ _ _ h => h) (Or.inl ⟨by kernel_rfl, ?hy12⟩) (by assumption) ?rest12
            case hy12 => (intro w hSw; (try dsimp only at hSw); go_simp; all_goals (try with_reducible rfl))
            case rest12 =>
            (try simp only [Act.put, List.setIfInBounds_toArray, List.set_cons_zero, List.set_cons_succ])
            refine wpAnyH_take (i := 13) (oi := { dst := some 27, op := _, type := _, pos := _, after := _, guard := _ }) (v := ?v13) rfl (by kernel_rfl) (by kernel_rfl) (by kernel_rfl) (fun _ _ _ h => h) (Or.inl ⟨by kernel_rfl, ?hy13⟩) (by assumption) ?rest13
            case hy13 => (intro w hSw; (try dsimp only at hSw); go_simp; all_goals (try with_reducible rfl))
            case rest13 =>
            (try simp only [Act.put, List.setIfInBounds_toArray, List.set_cons_zero, List.set_cons_succ])
            refine wpAnyH_take (i := 14) (oi := { dst := some 28, op := _, type := _, pos := _, after := _, guard := _ }) (v := ?v14) rfl (by kernel_rfl) (by kernel_rfl) (by kernel_rfl) (fun _ _ _ h => h) (Or.inl ⟨by kernel_rfl, ?hy14⟩) (by assumption) ?rest14
            case hy14 => (intro w hSw; (try dsimp only at hSw); go_simp; all_goals (try with_reducible rfl))
            case rest14 =>
            (try simp only [Act.put, List.setIfInBounds_toArray, List.set_cons_zero, List.set_cons_succ])
            refine wpAnyH_take (i := 15) (oi := { dst := some 29, op := _, type := _, pos := _, after := _, guard := _ }) (v := ?v15) rfl (by kernel_rfl) (by kernel_rfl) (by kernel_rfl) (fun _ _ _ h => h) (Or.inl ⟨by kernel_rfl, ?hy15⟩) (by assumption) ?rest15
            case hy15 => (intro w hSw; (try dsimp only at hSw); go_simp; all_goals (try with_reducible rfl))
            case rest15 =>
            (try simp only [Act.put, List.setIfInBounds_toArray, List.set_cons_zero, List.set_cons_succ])
            refine wpAnyH_take (i := 16) (oi := { dst := some 30, op := _, type := _, pos := _, after := _, guard := _ }) (v := ?v16) rfl (by kernel_rfl) (by kernel_rfl) (by kernel_rfl) (fun _ _ _ h => h) (Or.inl ⟨by kernel_rfl, ?hy16⟩) (by assumption) ?rest16
            case hy16 => (intro w hSw; (try dsimp only at hSw); go_simp; all_goals (try with_reducible rfl))
            case rest16 =>
            (try simp only [Act.put, List.setIfInBounds_toArray, List.set_cons_zero, List.set_cons_succ])
            refine wpAnyH_take (i := 17) (oi := { dst := some 31, op := _, type := _, pos := _, after := _, guard := _ }) (v := ?v17) rfl (by kernel_rfl) (by kernel_rfl) (by kernel_rfl) (fun _ _ _ h => h) (Or.inl ⟨by kernel_rfl, ?hy17⟩) (by assumption) ?rest17
            case hy17 => (intro w hSw; (try dsimp only at hSw); go_simp; all_goals (try with_reducible rfl))
            case rest17 =>
            (try simp only [Act.put, List.setIfInBounds_toArray, List.set_cons_zero, List.set_cons_succ])
            refine wpAnyH_take (i := 18) (oi := { dst := some 32, op := _, type := _, pos := _, after := _, guard := _ }) (v := ?v18) rfl (by kernel_rfl) (by kernel_rfl) (by kernel_rfl) (fun _ _ _ h => h) (Or.inl ⟨by kernel_rfl, ?hy18⟩) (by assumption) ?rest18
            case hy18 => (intro w hSw; (try dsimp only at hSw); go_simp; all_goals (try with_reducible rfl))
            case rest18 =>
            (try simp only [Act.put, List.setIfInBounds_toArray, List.set_cons_zero, List.set_cons_succ])
            refine wpAnyH_take (i := 20) (oi := { dst := some 34, op := _, type := _, pos := _, after := _, guard := _ }) (v := ?v20) rfl (by kernel_rfl) (by kernel_rfl) (by kernel_rfl) (fun _ _ _ h => h) (Or.inl ⟨by kernel_rfl, ?hy20⟩) (by assumption) ?rest20
            case hy20 => (intro w hSw; (try dsimp only at hSw); go_simp; all_goals (try with_reducible rfl))
            case rest20 =>
            (try simp only [Act.put, List.setIfInBounds_toArray, List.set_cons_zero, List.set_cons_succ])
            refine wpAnyH_take (i := 21) (oi := { dst := some 35, op := _, type := _, pos := _, after := _, guard := _ }) (v := ?v21) rfl (by kernel_rfl) (by kernel_rfl) (by kernel_rfl) (fun _ _ _ h => h) (Or.inl ⟨by kernel_rfl, ?hy21⟩) (by assumption) ?rest21
            case hy21 => (intro w hSw; (try dsimp only at hSw); go_simp; all_goals (try with_reducible rfl))
            case rest21 =>
            (try simp only [Act.put, List.setIfInBounds_toArray, List.set_cons_zero, List.set_cons_succ])
            refine wpAnyH_ready (rs := [19]) (by kernel_rfl) (by simp) ?_
            refine AllReadyH.cons rfl (fun K hK => ?_) AllReadyH.nil
            go_simp
            go_wp2_with (go_at_call 47; refine (C1.out _ (TT.out _ D0.out)).mono ?_; rintro _ w1 ⟨rfl, k1⟩; have D1 : Hid (Below (p + 1) W w1) := (D0.out.trans (k1.mono (Nat.le_trans HPW.out D0.out.size))); clear k1)
            refine hK.out _ _ ?_ (fun hHeld => ?_)
            · exact SX.out _ D1.out
            clear hK K
            (try simp only [Act.put, List.setIfInBounds_toArray, List.set_cons_zero, List.set_cons_succ])
            refine wpAnyH_take (i := 22) (oi := { dst := some 36, op := _, type := _, pos := _, after := _, guard := _ }) (v := ?v22) rfl (by kernel_rfl) (by kernel_rfl) (by kernel_rfl) (fun _ _ _ h => h) (Or.inl ⟨by kernel_rfl, ?hy22⟩) (by assumption) ?rest22
            case hy22 => (intro w hSw; (try dsimp only at hSw); go_simp; all_goals (try with_reducible rfl))
            case rest22 =>
            (try simp only [Act.put, List.setIfInBounds_toArray, List.set_cons_zero, List.set_cons_succ])
            refine wpAnyH_take (i := 23) (oi := { dst := some 37, op := _, type := _, pos := _, after := _, guard := _ }) (v := ?v23) rfl (by kernel_rfl) (by kernel_rfl) (by kernel_rfl) (fun _ _ _ h => h) (Or.inl ⟨by kernel_rfl, ?hy23⟩) (by assumption) ?rest23
            case hy23 => (intro w hSw; (try dsimp only at hSw); go_simp; all_goals (try with_reducible rfl))
            case rest23 =>
            (try simp only [Act.put, List.setIfInBounds_toArray, List.set_cons_zero, List.set_cons_succ])
            refine wpAnyH_take (i := 24) (oi := { dst := some 38, op := _, type := _, pos := _, after := _, guard := _ }) (v := ?v24) rfl (by kernel_rfl) (by kernel_rfl) (by kernel_rfl) (fun _ _ _ h => h) (Or.inl ⟨by kernel_rfl, ?hy24⟩) (by assumption) ?rest24
            case hy24 => (intro w hSw; (try dsimp only at hSw); go_simp; all_goals (try with_reducible rfl))
            case rest24 =>
            (try simp only [Act.put, List.setIfInBounds_toArray, List.set_cons_zero, List.set_cons_succ])
            refine wpAnyH_take (i := 25) (oi := { dst := some 39, op := _, type := _, pos := _, after := _, guard := _ }) (v := undef) rfl (by kernel_rfl) (by kernel_rfl) (by kernel_rfl) (fun _ _ _ h => h) (Or.inr ⟨by kernel_rfl, rfl⟩) (by assumption) ?_
            (try simp only [Act.put, List.setIfInBounds_toArray, List.set_cons_zero, List.set_cons_succ])
            refine wpAnyH_take (i := 26) (oi := { dst := some 40, op := _, type := _, pos := _, after := _, guard := _ }) (v := undef) rfl (by kernel_rfl) (by kernel_rfl) (by kernel_rfl) (fun _ _ _ h => h) (Or.inr ⟨by kernel_rfl, rfl⟩) (by assumption) ?_
            (try simp only [Act.put, List.setIfInBounds_toArray, List.set_cons_zero, List.set_cons_succ])
            refine wpAnyH_take (i := 27) (oi := { dst := some 41, op := _, type := _, pos := _, after := _, guard := _ }) (v := undef) rfl (by kernel_rfl) (by kernel_rfl) (by kernel_rfl) (fun _ _ _ h => h) (Or.inr ⟨by kernel_rfl, rfl⟩) (by assumption) ?_
            (try simp only [Act.put, List.setIfInBounds_toArray, List.set_cons_zero, List.set_cons_succ])
            refine wpAnyH_take (i := 28) (oi := { dst := some 42, op := _, type := _, pos := _, after := _, guard := _ }) (v := undef) rfl (by kernel_rfl) (by kernel_rfl) (by kernel_rfl) (fun _ _ _ h => h) (Or.inr ⟨by kernel_rfl, rfl⟩) (by assumption) ?_
            (try simp only [Act.put, List.setIfInBounds_toArray, List.set_cons_zero, List.set_cons_succ])
            refine wpAnyH_take (i := 29) (oi := { dst := some 43, op := _, type := _, pos := _, after := _, guard := _ }) (v := undef) rfl (by kernel_rfl) (by kernel_rfl) (by kernel_rfl) (fun _ _ _ h => h) (Or.inr ⟨by kernel_rfl, rfl⟩) (by assumption) ?_
            (try simp only [Act.put, List.setIfInBounds_toArray, List.set_cons_zero, List.set_cons_succ])
            refine wpAnyH_take (i := 30) (oi := { dst := some 44, op := _, type := _, pos := _, after := _, guard := _ }) (v := undef) rfl (by kernel_rfl) (by kernel_rfl) (by kernel_rfl) (fun _ _ _ h => h) (Or.inr ⟨by kernel_rfl, rfl⟩) (by assumption) ?_
            (try simp only [Act.put, List.setIfInBounds_toArray, List.set_cons_zero, List.set_cons_succ])
            refine wpAnyH_take (i := 31) (oi := { dst := some 45, op := _, type := _, pos := _, after := _, guard := _ }) (v := undef) rfl (by kernel_rfl) (by kernel_rfl) (by kernel_rfl) (fun _ _ _ h => h) (Or.inr ⟨by kernel_rfl, rfl⟩) (by assumption) ?_
            (try simp only [Act.put, List.setIfInBounds_toArray, List.set_cons_zero, List.set_cons_succ])
            refine wpAnyH_take (i := 32) (oi := { dst := some 46, op := _, type := _, pos := _, after := _, guard := _ }) (v := undef) rfl (by kernel_rfl) (by kernel_rfl) (by kernel_rfl) (fun _ _ _ h => h) (Or.inr ⟨by kernel_rfl, rfl⟩) (by assumption) ?_
            (try simp only [Act.put, List.setIfInBounds_toArray, List.set_cons_zero, List.set_cons_succ])
            refine wpAnyH_take (i := 33) (oi := { dst := some 47, op := _, type := _, pos := _, after := _, guard := _ }) (v := undef) rfl (by kernel_rfl) (by kernel_rfl) (by kernel_rfl) (fun _ _ _ h => h) (Or.inr ⟨by kernel_rfl, rfl⟩) (by assumption) ?_
            (try simp only [Act.put, List.setIfInBounds_toArray, List.set_cons_zero, List.set_cons_succ])
            refine wpAnyH_take (i := 34) (oi := { dst := some 48, op := _, type := _, pos := _, after := _, guard := _ }) (v := undef) rfl (by kernel_rfl) (by kernel_rfl) (by kernel_rfl) (fun _ _ _ h => h) (Or.inr ⟨by kernel_rfl, rfl⟩) (by assumption) ?_
            (try simp only [Act.put, List.setIfInBounds_toArray, List.set_cons_zero, List.set_cons_succ])
            refine wpAnyH_take (i := 35) (oi := { dst := some 49, op := _, type := _, pos := _, after := _, guard := _ }) (v := ?v35) rfl (by kernel_rfl) (by kernel_rfl) (by kernel_rfl) (fun _ _ _ h => h) (Or.inl ⟨by kernel_rfl, ?hy35⟩) (by assumption) ?rest35
            case hy35 => (intro w hSw; (try dsimp only at hSw); go_simp; all_goals (try with_reducible rfl))
            case rest35 =>
            (try simp only [Act.put, List.setIfInBounds_toArray, List.set_cons_zero, List.set_cons_succ])
            refine wpAnyH_done (by kernel_rfl) ?_ _
            go_wp2
            go_meet
            exact ⟨rfl, D1.out⟩
        case rest =>
          obtain ⟨rfl, D1⟩ := hcut
          go_wp2
          go_roundw
          case rel => exact ⟨k + 1, hk1, by first | rfl | go_num, D1.out⟩
          case measure => simp [intOf]; omega
      · go_wp2_with fail
        go_region_held_law (fun w' => w'.cell? ⟨p, 0, none⟩ = some (.string gn) ∧ w'.cell? ⟨p, 1, none⟩ = some (.string gi) ∧ w'.cell? ⟨p, 2, none⟩ = some (.string gm) ∧ w'.cell? ⟨b, off + k * 2, none⟩ = some (.string kn) ∧ w'.cell? ⟨b, off + k * 2 + 1, none⟩ = some (.string kx)) (first | exact SX.out _ D0.out | exact SX.out _ D1.out | exact SX.out _ D2.out) ((first | (go_at_call 47; refine (C1.out _ (TT.out _ D0.out)).mono ?_; rintro _ w1 ⟨rfl, k1⟩; have D1 : Hid (Below (p + 1) W w1) := (D0.out.trans (k1.mono (Nat.le_trans HPW.out D0.out.size))); clear k1) | (go_at_call 46; refine (C2.out _ (TT.out _ D1.out)).mono ?_; rintro _ w2 ⟨rfl, k2⟩; have D2 : Hid (Below (p + 1) W w2) := (D1.out.trans (k2.mono (Nat.le_trans HPW.out D1.out.size))); clear k2)))
        all_goals (
          cases b3
          · have hk1 := HNE.out rfl
            go_wp2
            go_roundw
            case rel => exact ⟨k + 1, hk1, by first | rfl | go_num, D2.out⟩
            case measure => simp [intOf]; omega
          · go_wp2
            go_ret
            exact ⟨rfl, FIN.out _ D2.out⟩)
end Go.Proofs.YtfkpfmaphjeakaaDoor.x3

namespace Go.Proofs.YtfkpfmaphjeakaaDoor.x4
open Go.RowKit Go.PlainAid Go.Shelf
open Go.Proofs.YtfkpfmaphjeakaaDoor.pl Go.Proofs.YtfkpfmaphjeakaaDoor.ft Go.Proofs.YtfkpfmaphjeakaaDoor.pj Go.Proofs.YtfkpfmaphjeakaaDoor.mo Go.Proofs.YtfkpfmaphjeakaaDoor.nd Go.Proofs.YtfkpfmaphjeakaaDoor.nh Go.Proofs.YtfkpfmaphjeakaaDoor.tb Go.Proofs.YtfkpfmaphjeakaaDoor.tc Go.Proofs.YtfkpfmaphjeakaaDoor.tj Go.Proofs.YtfkpfmaphjeakaaDoor.n3 Go.Proofs.YtfkpfmaphjeakaaDoor.n4 Go.Proofs.YtfkpfmaphjeakaaDoor.o1 Go.Proofs.YtfkpfmaphjeakaaDoor.o3 Go.Proofs.YtfkpfmaphjeakaaDoor.o5 Go.Proofs.YtfkpfmaphjeakaaDoor.o6 Go.Proofs.YtfkpfmaphjeakaaDoor.o7 Go.Proofs.YtfkpfmaphjeakaaDoor.o9 Go.Proofs.YtfkpfmaphjeakaaDoor.kp Go.Proofs.YtfkpfmaphjeakaaDoor.q2 Go.Proofs.YtfkpfmaphjeakaaDoor.q5 Go.Proofs.YtfkpfmaphjeakaaDoor.r1 Go.Proofs.YtfkpfmaphjeakaaDoor.t5 Go.Proofs.YtfkpfmaphjeakaaDoor.v2 Go.Proofs.YtfkpfmaphjeakaaDoor.v4 Go.Proofs.YtfkpfmaphjeakaaDoor.v8 Go.Proofs.YtfkpfmaphjeakaaDoor.w2 Go.Proofs.YtfkpfmaphjeakaaDoor.w8 Go.Proofs.YtfkpfmaphjeakaaDoor.x1 Go.Proofs.YtfkpfmaphjeakaaDoor.x2 Go.Proofs.YtfkpfmaphjeakaaDoor.x3
set_option linter.unusedVariables false
set_option maxRecDepth 4000

theorem op_cases (note : ByteArray) (RL : List ByteArray) (ks : List Ky) : (∃ E, E ≠ 0 ∧ opB note RL ks = noO E) ∨ ∃ body gs go re, note.size ≤ 65536 ∧ readB note RL = some (body, gs) ∧ opF ks body gs ([], []) = some (go, re) ∧ go.length ≠ 0 ∧ opB note RL ks = ((body, go, re), 0) := by
  unfold opB
  by_cases hb : 65536 < note.size
  · rw [if_pos hb]; exact .inl ⟨121, by decide, rfl⟩
  · rw [if_neg hb]
    cases hr : readB note RL with
    | none => exact .inl ⟨200, by decide, rfl⟩
    | some bg =>
      obtain ⟨body, gs⟩ := bg
      simp only
      cases hf : opF ks body gs ([], []) with
      | none => exact .inl ⟨201, by decide, rfl⟩
      | some gr =>
        obtain ⟨go, re⟩ := gr
        simp only
        by_cases hl : go.length = 0
        · rw [if_pos hl]; exact .inl ⟨202, by decide, rfl⟩
        · rw [if_neg hl]; exact .inr ⟨body, gs, go, re, by omega, rfl, hf, hl, rfl⟩
theorem own_at (g : Sg) (ks : List Ky) (h : 0 ≤ ownF g ks 0) : ∃ j, ∃ hj : j < ks.length, kg (ks[j]'hj) g = true ∧ sec ks g = (ks[j]'hj).2 := by
  by_cases hex : ∃ k ∈ ks, kg k g = true
  · obtain ⟨j, hj, h1, h2⟩ := own_yes g ks 0 hex
    refine ⟨j, hj, h2, ?_⟩
    unfold sec
    rw [h1, Nat.zero_add, Int.toNat_natCast, List.getD_eq_getElem?_getD, List.getElem?_eq_getElem hj]
    rfl
  · have := own_no g ks 0 (fun k hk => by cases hkg : kg k g; rfl; exact absurd ⟨k, hk, hkg⟩ hex)
    omega
set_option maxHeartbeats 12800000 in
theorem law_only (W0 : World) (b : ByteArray) (hb : b.size ≤ 140737488351232) (v : Value) (ks : List Ky) (hr : ReadsY W0 v ks) (hz : ks.length * 32 ≤ 140737488351232) (hs : ∀ k ∈ ks, k.1.size ≤ 140737488351232 ∧ k.2.size ≤ 140737488351232) (tabs : St8 W0 0 ∧ K64 W0 2) :
    Calls Tryd.prog 5 #[.string b, v] W0 fun e w' => e = .returned (.bool true) ∧ Below W0.heap.size W0 w' := by
  have C1 : Hid (Calls _ _ _ _ _) := law_back W0 b hb v ks hr hz hs 1 0 tabs
  have T : Hid (Tab W0) := Tab.of tabs
  clear tabs
  have TT : Hid (∀ w', Below W0.heap.size W0 w' → Hid (Tab w')) := fun w' h => T.out.down h
  obtain ⟨RL, hG, _⟩ := gives_ex b
  have HG : Hid (Gives b RL) := hG
  have HRY : Hid (∀ w, Below W0.heap.size W0 w → ReadsY w v ks) := fun w h => hr.later h
  have HS : Hid _ := hs
  have C2 : Hid (∀ w, Below W0.heap.size W0 w → Calls Tryd.prog 14 #[.string b, v] w fun e w' => OpQ w.heap.size w' (opB b RL ks) e ∧ Below w.heap.size w w') := fun w h => openC b (by omega) RL hG v ks w (HRY.out w h) (by omega) hs (TT.out w h)
  obtain ⟨a, c, rfl, _⟩ := id hr
  have hzk : ks.length ≤ 4398046511104 := by omega
  obtain ⟨n, HN⟩ : ∃ n, Hid (ks.length = n) := ⟨_, rfl⟩
  rw [HN.out] at C1 C2 HRY ⊢
  clear hr hG T hz hs
  rcases op_cases b RL ks with ⟨E, hE, he⟩ | ⟨body, gs, go, re, h64, hrd, hof, hgo, he⟩
  · rw [he] at C2
    clear he
    have gE : (E == 0) = false := beq_eq_false_iff_ne.2 hE
    obtain ⟨he1, he2⟩ := yes_empty ByteArray.empty rfl
    obtain ⟨tE, HTE⟩ : ∃ tE, Hid (ByteArray.empty = tE) := ⟨_, rfl⟩
    rw [HTE.out] at he1 he2
    go_enter Tryd.func5, Tryd.ntmps5
    go_wp2_with fail
    refine C1.out.mono ?_
    rintro e w1 ⟨rfl, hb1⟩
    have B1 : Hid (Below W0.heap.size W0 w1) := hb1
    clear hb1
    go_wp2_with fail
    refine (C2.out w1 B1.out).mono ?_
    rintro e w2 ⟨⟨ga, gc, ra, rc, rfl, _, _, _, _⟩, hb2⟩
    simp only [noO, List.length_nil]
    rw [HTE.out]
    have B2 : Hid (Below W0.heap.size W0 (w2.alloc (.cells #[.string tE, .slice ga (0 : Nat) gc, .slice ra (0 : Nat) rc] 43))) := (over B1.out hb2).alloc (over B1.out hb2).size _
    clear hb2 C1 C2
    go_wp2_with (go_at_call 8; refine (numC _ _).mono ?_; rintro e wz ⟨rfl, hz⟩; rw [hz]; clear hz wz)
    go_ret
    exact ⟨rfl, B2.out⟩
  · rw [he] at C2
    obtain ⟨z16, zb⟩ := readB_size hrd
    obtain ⟨hno, hfine⟩ := note_back b RL HG.out body gs hrd
    have hlen := mg_len (mg_zero hof)
    have hall := (op_all ks body gs _ _ hof).1
    have HOK : Hid (∀ x ∈ go, ∃ j, ∃ hj : j < ks.length, kg (ks[j]'hj) x = true ∧ x.mac = macF (ks[j]'hj).2 body) := fun x hx => by
      rcases hall x hx with h | ⟨_, h1, h2⟩
      · cases h
      · obtain ⟨j, hj, h3, h4⟩ := own_at x ks h1
        exact ⟨j, hj, h3, by rw [← h4]; exact h2⟩
    have CM : Hid (∀ w ga gc ra rc, ReadsG w (.slice ga go.length gc) go → ReadsG w (.slice ra re.length rc) re → Calls _ _ _ _ _) := fun w ga gc ra rc h1 h2 => mergedC b body ks gs go re hno hof hfine z16 h64 ga gc ra rc w h1 h2
    obtain ⟨ng, HNG⟩ : ∃ ng, Hid (go.length = ng) := ⟨_, rfl⟩
    obtain ⟨nr, HNR⟩ : ∃ nr, Hid (re.length = nr) := ⟨_, rfl⟩
    rw [HNG.out] at hlen hgo CM
    rw [HNR.out] at hlen CM
    have CO : Hid (∀ w x, Below W0.heap.size W0 w → x ∈ go → Calls Tryd.prog 18 #[.slice a n c, .agg #[.string x.name, .string x.id, .string x.mac], .string body] w fun e w' => e = .returned (.bool true) ∧ Below w.heap.size w w') := fun w x h hx => by
      obtain ⟨j, hj, h3, h4⟩ := HOK.out x hx
      exact ownedC ks x body j hj h3 h4 (.slice a n c) w (HRY.out w h) hzk HS.out (by omega) (TT.out w h)
    have g1 : ((ng : Int) == 0) = false := beq_eq_false_iff_ne.2 (by omega)
    have g1' : ¬ (ng : Int) = 0 := by omega
    have g2 : ¬ (ng : Int) + nr > 16 := by omega
    have g3 : ¬ (b.size : Int) > 65536 := by omega
    clear he hrd hof hgo hno hfine hall HOK
    go_enter Tryd.func5, Tryd.ntmps5
    go_wp2_with fail
    refine C1.out.mono ?_
    rintro e w1 ⟨rfl, hb1⟩
    have B1 : Hid (Below W0.heap.size W0 w1) := hb1
    clear hb1
    go_wp2_with fail
    refine (C2.out w1 B1.out).mono ?_
    rintro e w2 ⟨⟨ga, gc, ra, rc, rfl, hg, hr, _, _⟩, hb2⟩
    simp only [HNG.out, HNR.out] at hg hr ⊢
    obtain ⟨V, HV⟩ : ∃ V, Hid (w2.alloc (.cells #[.string body, .slice ga ng gc, .slice ra nr rc] 43) = V) := ⟨_, rfl⟩
    have BV : Hid (Below w2.heap.size w2 V) := by rw [← HV.out]; exact (Below.refl _ _).alloc (Nat.le_refl _) _
    have HVB : Hid (V.heap[w2.heap.size]? = some (.cells #[.string body, .slice ga ng gc, .slice ra nr rc] 43 (0, 0))) := by rw [← HV.out]; exact heap_alloc_new _ _
    have BXV : Hid (Below W0.heap.size W0 V) := over (over B1.out hb2) BV.out
    have HG6 : Hid (∀ w, Below V.heap.size V w → ReadsG w (.slice ga ng gc) go) := fun w h => (hg.later BV.out).later h
    have HR6 : Hid (∀ w, Below V.heap.size V w → ReadsG w (.slice ra nr rc) re) := fun w h => (hr.later BV.out).later h
    have hlt6 : w2.heap.size < V.heap.size := (Array.getElem?_eq_some_iff.1 HVB.out).1
    have SX : Hid (∀ w', Below V.heap.size V w' → w'.cell? ⟨w2.heap.size, 0, none⟩ = some (.string body) ∧ w'.cell? ⟨w2.heap.size, 1, none⟩ = some (.slice ga ng gc) ∧ w'.cell? ⟨w2.heap.size, 2, none⟩ = some (.slice ra nr rc)) := fun w' h => ⟨by rw [h.cell (p := ⟨w2.heap.size, 0, none⟩) hlt6, cell_of_row _ _ 0 _ _ _ HVB.out]; rfl, by rw [h.cell (p := ⟨w2.heap.size, 1, none⟩) hlt6, cell_of_row _ _ 1 _ _ _ HVB.out]; rfl, by rw [h.cell (p := ⟨w2.heap.size, 2, none⟩) hlt6, cell_of_row _ _ 2 _ _ _ HVB.out]; rfl⟩
    clear hb2 hg hr C1 C2
    go_upto_region 5 with fail
    rw [HV.out]
    obtain ⟨ob, HOB⟩ : ∃ ob, Hid (w2.heap.size = ob) := ⟨_, rfl⟩
    rw [HOB.out] at SX ⊢
    clear hlt6 HVB
    obtain ⟨p0, p1, p2⟩ := SX.out V (Below.refl _ _)
    have CM1 : Hid (Calls _ _ _ _ _) := CM.out V ga gc ra rc (HG6.out V (Below.refl _ _)) (HR6.out V (Below.refl _ _))
    go_wp2_with (go_at_call 8; refine (numC _ _).mono ?_; rintro e wz ⟨rfl, hz⟩; rw [hz]; clear hz wz)
    refine CM1.out.mono ?_
    rintro e w3 ⟨rfl, hb3⟩
    have B3 : Hid (Below V.heap.size V w3) := hb3
    clear hb3 p0 p1 p2
    obtain ⟨p0, p1, p2⟩ := SX.out w3 B3.out
    go_wp2_with fail
    go_loopw [10] (fun iv wr => ∃ i : Nat, i ≤ ng ∧ iv = .int .i64 i ∧ Hid (Below V.heap.size V wr)) (fun iv _ => (ng - intOf iv).toNat)
    case atStart => exact ⟨0, by omega, rfl, B3.out⟩
    case round =>
      obtain ⟨i, hi, rfl, HB⟩ := hrel
      clear p0 p1 p2
      obtain ⟨p0, p1, p2⟩ := SX.out wr HB.out
      by_cases hlt : i < ng
      · have hlt' : (i : Int) < ng := by omega
        have hil : i < go.length := by rw [HNG.out]; exact hlt
        obtain ⟨x, HX⟩ : ∃ x, Hid (go[i]'hil = x) := ⟨_, rfl⟩
        have hxm : x ∈ go := by rw [← HX.out]; exact List.getElem_mem hil
        have hix : go[i]? = some x := by rw [List.getElem?_eq_getElem hil, HX.out]
        obtain ⟨gb, off, ha, hbw, _⟩ := rg_at (HG6.out wr HB.out) i x hix
        have HCL : Hid (∀ w, Below V.heap.size V w → w.cell? ⟨gb, off + i * 3, none⟩ = some (.string x.name) ∧ w.cell? ⟨gb, off + i * 3 + 1, none⟩ = some (.string x.id) ∧ w.cell? ⟨gb, off + i * 3 + 2, none⟩ = some (.string x.mac)) := fun w h => by
          obtain ⟨gb', off', ha', _, h1⟩ := rg_at (HG6.out w h) i x hix
          rw [ha] at ha'
          injection ha' with ha'
          injection ha' with e1 e2
          subst e1 e2
          exact h1
        subst ha
        have CX : Hid (∀ w, Below V.heap.size V w → Calls _ _ _ _ _) := fun w h => CO.out w x (over BXV.out h) hxm
        clear hix hxm HX hbw
        obtain ⟨xn, xi, xm⟩ := x
        simp only at HCL CX
        have D0 : Hid (Below V.heap.size V wr.drew) := Go.Proofs.YtfkpfmaphjeakaaDoor.tj.below_dN HB.out 1
        have SY : Hid (∀ w', Below V.heap.size V w' → Below V.heap.size V w' ∧ w'.cell? ⟨ob, 0, none⟩ = some (.string body) ∧ w'.cell? ⟨ob, 1, none⟩ = some (.slice (some ⟨gb, off, none⟩) ng gc) ∧ w'.cell? ⟨gb, off + i * 3, none⟩ = some (.string xn) ∧ w'.cell? ⟨gb, off + i * 3 + 1, none⟩ = some (.string xi) ∧ w'.cell? ⟨gb, off + i * 3 + 2, none⟩ = some (.string xm)) := fun w' h => ⟨h, (SX.out w' h).1, (SX.out w' h).2.1, HCL.out w' h⟩
        go_wp2_with fail
        go_region_held3 (fun w' => Below V.heap.size V w' ∧ w'.cell? ⟨ob, 0, none⟩ = some (.string body) ∧ w'.cell? ⟨ob, 1, none⟩ = some (.slice (some ⟨gb, off, none⟩) ng gc) ∧ w'.cell? ⟨gb, off + i * 3, none⟩ = some (.string xn) ∧ w'.cell? ⟨gb, off + i * 3 + 1, none⟩ = some (.string xi) ∧ w'.cell? ⟨gb, off + i * 3 + 2, none⟩ = some (.string xm)) (first | exact SY.out _ D0.out | exact SY.out _ D1.out) ((go_at_call 18; refine (CX.out _ (And.left (by assumption))).mono ?_; rintro _ w4 ⟨rfl, k4⟩; have D1 : Hid (Below V.heap.size V w4) := D0.out.trans (k4.mono D0.out.size); clear k4))
        all_goals (
          go_wp2
          go_roundw
          case rel => exact ⟨i + 1, by omega, by first | rfl | go_num, D1.out⟩
          case measure => simp [intOf]; omega)
      · have hlt' : ¬ (i : Int) < ng := by omega
        go_wp2
        go_ret
        exact ⟨rfl, over BXV.out HB.out⟩
end Go.Proofs.YtfkpfmaphjeakaaDoor.x4
