import Derived.Test.YtjkkijeamcihiaaLd
import Derived.Test.YtjkkijeamcihiaaIz
import Derived.Lib.SmallJoins
namespace Go.Proofs.Ytjkkijeamcihiaa.jp
open Go.RowKit Go.PlainAid Go.Maps
open Go.Proofs.Ytjkkijeamcihiaa.sa Go.Proofs.Ytjkkijeamcihiaa.la
open Go.Proofs.Ytjkkijeamcihiaa.lb (tellS)
open Go.Proofs.Ytjkkijeamcihiaa.ld (cntS)
set_option linter.unusedVariables false
set_option linter.unusedSimpArgs false
abbrev I := S Int (ByteArray × Int)
abbrev T := S ByteArray ByteArray
abbrev okI (k : Int) : Prop := (Lit.int .i64 k).wf = true
theorem okI_in {k : Int} (h : okI k) : -9223372036854775808 ≤ k ∧ k ≤ 9223372036854775807 := ⟨(bounds_i64 h).1, (bounds_i64 h).2⟩
-- other numbers, other texts
def ev (l : List Nat) : Nat := l.foldl (fun a d => 10 * a + d) 0
theorem ev_dg (u : Nat) : ev (dg u) = u := by
  induction u using Nat.strongRecOn with
  | _ u ih =>
    by_cases h : u < 10
    · rw [dg_one h]; simp [ev]
    · rw [dg_more h]
      have := ih (u / 10) (by omega)
      unfold ev at this ⊢
      rw [List.foldl_append, this]
      show 10 * (u / 10) + u % 10 = u
      omega
theorem dg_lt (u : Nat) : ∀ d ∈ dg u, d < 10 := by
  induction u using Nat.strongRecOn with
  | _ u ih =>
    by_cases h : u < 10
    · rw [dg_one h]; intro d hd; rw [List.mem_singleton.1 hd]; exact h
    · rw [dg_more h]
      intro d hd
      rcases List.mem_append.1 hd with hd | hd
      · exact ih (u / 10) (by omega) d hd
      · rw [List.mem_singleton.1 hd]; omega
theorem map_inj : ∀ {a b : List Nat}, (∀ d ∈ a, d < 10) → (∀ d ∈ b, d < 10) → a.map (fun d => UInt8.ofNat (48 + d)) = b.map (fun d => UInt8.ofNat (48 + d)) → a = b
  | [], [], _, _, _ => rfl
  | [], _ :: _, _, _, h => by cases h
  | _ :: _, [], _, _, h => by cases h
  | x :: a, y :: b, ha, hb, h => by
    rw [List.map_cons, List.map_cons] at h
    have h1 := (List.cons.inj h).1
    have h2 := (List.cons.inj h).2
    have hx := ha x (List.mem_cons_self ..)
    have hy := hb y (List.mem_cons_self ..)
    have e : x = y := by
      have := congrArg UInt8.toNat h1
      simp only [UInt8.toNat_ofNat'] at this
      omega
    rw [e, map_inj (fun d hd => ha d (List.mem_cons_of_mem _ hd)) (fun d hd => hb d (List.mem_cons_of_mem _ hd)) h2]
theorem txt_inj {a b : List Nat} (ha : ∀ d ∈ a, d < 10) (hb : ∀ d ∈ b, d < 10) (h : txt a = txt b) : a = b :=
  map_inj ha hb (congrArg Array.toList (congrArg ByteArray.data h))
theorem digS_inj {a b : Int} (ha : okI a) (hb : okI b) (h : digS a = digS b) : a = b := by
  unfold digS at h
  have h := congrArg Array.toList (congrArg ByteArray.data h)
  rw [ByteArray.data_append, ByteArray.data_append, Array.toList_append, Array.toList_append] at h
  have h := List.append_cancel_left h
  have h : txt (dg (un a)) = txt (dg (un b)) := ByteArray.ext (Array.ext' h)
  have h := txt_inj (dg_lt _) (dg_lt _) h
  have h : un a = un b := by rw [← ev_dg (un a), ← ev_dg (un b), h]
  have h1 := okI_in ha
  have h2 := okI_in hb
  unfold un at h
  omega
section
variable {κ ν : Type} [DecidableEq κ]
theorem fnd_same {k : κ} {p : κ × ν} {l : List (κ × ν)} (e : p.1 = k) : fnd k (p :: l) = some p.2 := by simp [fnd, e]
theorem fnd_other {k : κ} {p : κ × ν} {l : List (κ × ν)} (e : p.1 ≠ k) : fnd k (p :: l) = fnd k l := by simp [fnd, e]
theorem rm_same {k : κ} {p : κ × ν} {l : List (κ × ν)} (e : p.1 = k) : rm k (p :: l) = rm k l := by unfold rm; rw [List.filter_cons, decide_eq_true e]; rfl
theorem rm_other {k : κ} {p : κ × ν} {l : List (κ × ν)} (e : p.1 ≠ k) : rm k (p :: l) = p :: rm k l := by unfold rm; rw [List.filter_cons, decide_eq_false e]; rfl
end
-- the document's state beside the program's
def mv (p : Int × (ByteArray × Int)) : ByteArray × ByteArray := (digS p.1, p.2.1)
def mp (s : I) : T := ⟨s.most, s.hits, s.misses, s.gone, s.l.map mv⟩
structure Nm (s : I) : Prop where
  ok : ∀ p ∈ s.l, okI p.1
  sz : ∀ p ∈ s.l, p.2.2 = (p.2.1.size : Int)
theorem fnd_mp {k : Int} (hk : okI k) {l : List (Int × (ByteArray × Int))} (h : ∀ p ∈ l, okI p.1) : fnd (digS k) (l.map mv) = (fnd k l).map (·.1) := by
  induction l with
  | nil => rfl
  | cons p l ih =>
    have h1 := h p (List.mem_cons_self ..)
    have ih := ih (fun q hq => h q (List.mem_cons_of_mem _ hq))
    rw [List.map_cons]
    by_cases e : p.1 = k
    · rw [fnd_same e, fnd_same (p := mv p) (show digS p.1 = digS k by rw [e])]; rfl
    · rw [fnd_other e, fnd_other (p := mv p) (show digS p.1 ≠ digS k from fun e2 => e (digS_inj h1 hk e2)), ih]
theorem rm_mp {k : Int} (hk : okI k) {l : List (Int × (ByteArray × Int))} (h : ∀ p ∈ l, okI p.1) : rm (digS k) (l.map mv) = (rm k l).map mv := by
  induction l with
  | nil => rfl
  | cons p l ih =>
    have h1 := h p (List.mem_cons_self ..)
    have ih := ih (fun q hq => h q (List.mem_cons_of_mem _ hq))
    rw [List.map_cons]
    by_cases e : p.1 = k
    · rw [rm_same e, rm_same (p := mv p) (show digS p.1 = digS k by rw [e]), ih]
    · rw [rm_other e, rm_other (p := mv p) (show digS p.1 ≠ digS k from fun e2 => e (digS_inj h1 hk e2)), ih, List.map_cons]
section
variable {s : I} (h : Nm s) {k : Int} (hk : okI k)
include h hk
theorem fndS : fnd (digS k) (mp s).l = (fnd k s.l).map (·.1) := fnd_mp hk h.ok
theorem get_mp : getS (mp s) (digS k) = mp (getS s k) := by
  unfold getS
  rw [fndS h hk]
  cases fnd k s.l with
  | none => rfl
  | some x =>
    show (⟨_, _, _, _, (digS k, x.1) :: rm (digS k) (s.l.map mv)⟩ : T) = _
    rw [rm_mp hk h.ok]
    rfl
theorem out_mp : outS (mp s) (digS k) = (outS s k).map digS := by
  unfold outS
  rw [fndS h hk]
  cases fnd k s.l with
  | some x => rfl
  | none =>
    show (if s.most = 0 then some (digS k) else if (s.l.map mv).length < s.most then none else ((s.l.map mv).getLast?).map (·.1)) = Option.map digS (if s.most = 0 then some k else if s.l.length < s.most then none else (s.l.getLast?).map (·.1))
    rw [List.length_map, List.getLast?_map, Option.map_map]
    split
    · rfl
    · split
      · rfl
      · rw [Option.map_map]; rfl
theorem put_mp (v : ByteArray) (n : Int) : putS (mp s) (digS k) v = mp (putS s k (v, n)) := by
  unfold putS
  rw [fndS h hk]
  cases fnd k s.l with
  | some x =>
    show (⟨_, _, _, _, (digS k, v) :: rm (digS k) (s.l.map mv)⟩ : T) = _
    rw [rm_mp hk h.ok]
    rfl
  | none =>
    show (if s.most = 0 then (⟨_, _, _, _, _⟩ : T) else if (s.l.map mv).length < s.most then (⟨_, _, _, _, _⟩ : T) else (⟨_, _, _, _, (digS k, v) :: (s.l.map mv).dropLast⟩ : T)) = mp (if s.most = 0 then _ else if s.l.length < s.most then _ else _)
    rw [List.length_map, ← List.map_dropLast]
    split
    · rfl
    · split <;> rfl
theorem drop_mp : dropS (mp s) (digS k) = mp (dropS s k) := by
  show (⟨_, _, _, _, rm (digS k) (s.l.map mv)⟩ : T) = _
  rw [rm_mp hk h.ok]
  rfl
end
def tellI (s : I) (kd k : Int) (v : ByteArray) : I :=
  if kd = 1 then getS s k else if kd = 3 then putS s k (v, v.size) else if kd = 4 then dropS s k else if kd = 5 then clearS s else s
theorem tell_mp {s : I} (h : Nm s) {k : Int} (hk : okI k) (kd : Int) (v : ByteArray) : tellS (mp s) kd k v = mp (tellI s kd k v) := by
  unfold tellS tellI
  split
  · exact get_mp h hk
  · split
    · exact put_mp h hk v _
    · split
      · exact drop_mp h hk
      · split <;> rfl
theorem Nm.sub {s t : I} (h : Nm s) (g : ∀ p ∈ t.l, p ∈ s.l) : Nm t := ⟨fun p hp => h.ok p (g p hp), fun p hp => h.sz p (g p hp)⟩
theorem Nm.more {s t : I} (h : Nm s) {q : Int × (ByteArray × Int)} (hq : okI q.1) (hz : q.2.2 = (q.2.1.size : Int)) (g : ∀ p ∈ t.l, p = q ∨ p ∈ s.l) : Nm t := by
  refine ⟨fun p hp => ?_, fun p hp => ?_⟩ <;> rcases g p hp with rfl | e
  · exact hq
  · exact h.ok p e
  · exact hz
  · exact h.sz p e
theorem tell_nm {s : I} (h : Nm s) {k : Int} (hk : okI k) (kd : Int) (v : ByteArray) : Nm (tellI s kd k v) := by
  unfold tellI
  split
  · unfold getS
    split
    · rename_i x hx
      exact h.more hk (h.sz _ (fnd_mem hx)) (fun p hp => (List.mem_cons.1 hp).imp id (fun e => (mem_rm.1 e).1))
    · exact h.sub (fun p hp => hp)
  · split
    · unfold putS
      split
      · exact h.more (q := (k, (v, (v.size : Int)))) hk rfl (fun p hp => (List.mem_cons.1 hp).imp id (fun e => (mem_rm.1 e).1))
      · split
        · exact h.sub (fun p hp => hp)
        · split
          · exact h.more (q := (k, (v, (v.size : Int)))) hk rfl (fun p hp => List.mem_cons.1 hp)
          · exact h.more (q := (k, (v, (v.size : Int)))) hk rfl (fun p hp => (List.mem_cons.1 hp).imp id (fun e => (List.dropLast_sublist s.l).subset e))
    · split
      · exact h.sub (fun p hp => (mem_rm.1 hp).1)
      · split
        · exact h.sub (fun p hp => by cases hp)
        · exact h
theorem keys_mp (s : I) : keys (mp s).l = (keys s.l).map digS := by
  unfold keys mp
  rw [List.map_map, List.map_map]
  rfl
theorem nd_mp {s : I} (h : Nm s) (nd : (keys s.l).Nodup) : (keys (mp s).l).Nodup := by
  rw [keys_mp]
  unfold List.Nodup
  rw [List.pairwise_map]
  refine List.Pairwise.imp_of_mem (fun {a b} ha hb hne e => ?_) nd
  obtain ⟨p, hp, rfl⟩ := List.mem_map.1 ha
  obtain ⟨q, hq, rfl⟩ := List.mem_map.1 hb
  exact hne (digS_inj (h.ok p hp) (h.ok q hq) e)
-- what Get, Peek and Put tell
def xS (s : I) (k : Int) : ByteArray := ((fnd k s.l).getD (⟨#[]⟩, 0)).1
theorem x_pair {s : I} (h : Nm s) (k : Int) : (fnd k s.l).getD (⟨#[]⟩, 0) = (xS s k, ((xS s k).size : Int)) := by
  unfold xS
  cases e : fnd k s.l with
  | none => rfl
  | some x => exact Prod.ext rfl (h.sz _ (fnd_mem e))
theorem x_doc {s : I} (h : Nm s) {k : Int} (hk : okI k) : (fnd (digS k) (mp s).l).getD ⟨#[]⟩ = xS s k := by
  rw [fndS h hk]
  unfold xS
  cases fnd k s.l <;> rfl
theorem is_doc {s : I} (h : Nm s) {k : Int} (hk : okI k) : (fnd (digS k) (mp s).l).isSome = (fnd k s.l).isSome := by
  rw [fndS h hk]
  cases fnd k s.l <;> rfl
theorem x_none {s : I} {k : Int} (h : (fnd k s.l).isSome = false) : xS s k = ⟨#[]⟩ := by
  unfold xS
  cases e : fnd k s.l with
  | none => rfl
  | some x => rw [e] at h; cases h
def cntI (s : I) : Nat := s.hits + s.misses + s.gone
theorem cnt_mp (s : I) : cntS (mp s) = cntI s := rfl
theorem outI {s : I} (h : Nm s) {k o : Int} (hk : okI k) (e : outS s k = some o) : okI o := by
  unfold outS at e
  split at e
  · cases e
  · split at e
    · rw [← Option.some.inj e]; exact hk
    · split at e
      · cases e
      · cases g : s.l.getLast? with
        | none => rw [g] at e; cases e
        | some p =>
          rw [g] at e
          rw [← Option.some.inj e]
          exact h.ok p (List.mem_of_getLast? g)
end Go.Proofs.Ytjkkijeamcihiaa.jp
