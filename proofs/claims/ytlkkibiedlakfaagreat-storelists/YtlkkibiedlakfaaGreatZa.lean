import Derived.Test.YtlkkibiedlakfaaGreatYx
import Derived.Laws.Cover1
import Derived.BigQuiet
import Derived.Deep.QuietTactic
namespace Go.Proofs.YtlkkibiedlakfaaGreat.za
open Go.RowKit Go.PlainAid Go.Maps Go.Shelf
open Go.Proofs.YtlkkibiedlakfaaGreat.ca Go.Proofs.YtlkkibiedlakfaaGreat.cb Go.Proofs.YtlkkibiedlakfaaGreat.cp Go.Proofs.YtlkkibiedlakfaaGreat.kp Go.Proofs.YtlkkibiedlakfaaGreat.ka Go.Proofs.YtlkkibiedlakfaaGreat.ya Go.Proofs.YtlkkibiedlakfaaGreat.yb Go.Proofs.YtlkkibiedlakfaaGreat.yc Go.Proofs.YtlkkibiedlakfaaGreat.yd Go.Proofs.YtlkkibiedlakfaaGreat.ye Go.Proofs.YtlkkibiedlakfaaGreat.yf Go.Proofs.YtlkkibiedlakfaaGreat.yg Go.Proofs.YtlkkibiedlakfaaGreat.yi Go.Proofs.YtlkkibiedlakfaaGreat.yk Go.Proofs.YtlkkibiedlakfaaGreat.yl Go.Proofs.YtlkkibiedlakfaaGreat.ym Go.Proofs.YtlkkibiedlakfaaGreat.yn Go.Proofs.YtlkkibiedlakfaaGreat.yo Go.Proofs.YtlkkibiedlakfaaGreat.yp Go.Proofs.YtlkkibiedlakfaaGreat.yq Go.Proofs.YtlkkibiedlakfaaGreat.yr Go.Proofs.YtlkkibiedlakfaaGreat.ys Go.Proofs.YtlkkibiedlakfaaGreat.yt Go.Proofs.YtlkkibiedlakfaaGreat.yu Go.Proofs.YtlkkibiedlakfaaGreat.yv Go.Proofs.YtlkkibiedlakfaaGreat.yw Go.Proofs.YtlkkibiedlakfaaGreat.yx Go.Proofs.YtlkkibiedlakfaaGreat.sb Go.Proofs.YtlkkibiedlakfaaGreat.mc
set_option linter.unusedVariables false
set_option linter.unusedSimpArgs false
theorem isz_tot (r : List Rec) : isz r ≤ 1 + tot r := by
  induction r with
  | nil => simp [isz, tot]
  | cons p r ih => simp only [isz, tot, cnt]; omega
-- as long as no power is cut
structure Rm (c : Int) (s : S) : Prop where
  off : s.off = false
  arm : s.armed = 0
  cap : s.cap = c
  tn : (tot (now s) : Int) ≤ c
  td : (tot s.dur : Int) ≤ c
theorem spend_not {s : S} (h : s.armed = 0) : spendS s = (0, s) := by unfold spendS; rw [if_pos h]
theorem rm_do {c : Int} {s : S} (h : Rm c s) (hs : Srt s.dur) (kind : Int) (k d : ByteArray) (n : Int) (h4 : kind ≠ 4) (h5 : kind ≠ 5) : Rm c (doS s kind k d n).2 ∧ ((doS s kind k d n).1 ≠ 0 → tot (now (doS s kind k d n).2) = tot (now s)) := by
  have hsn : Srt (now s) := srt_do hs
  unfold doS
  by_cases h1 : kind = 1
  · rw [if_pos h1]
    unfold putS
    split
    · exact ⟨h, fun _ => rfl⟩
    · split
      · split
        · exact ⟨h, fun _ => rfl⟩
        · rename_i hx
          rw [spend_not (show (addW s ⟨false, k, d⟩).armed = 0 from h.arm)]
          refine ⟨⟨h.off, h.arm, h.cap, ?_, h.td⟩, fun e => absurd rfl e⟩
          rw [now_add]
          show ((tot (put k d (now s)) : Nat) : Int) ≤ c
          have h6 := h.tn
          have h7 := h.cap
          have h8 : ¬ (s.cap < (tot (put k d (now s)) : Nat) ∧ tot (now s) < tot (put k d (now s))) := hx
          omega
      · exact ⟨h, fun _ => rfl⟩
  · rw [if_neg h1]
    by_cases h2 : kind = 2
    · rw [if_pos h2]
      unfold cutS
      split
      · exact ⟨h, fun _ => rfl⟩
      · split
        · rw [spend_not (show (addW s ⟨true, k, ByteArray.empty⟩).armed = 0 from h.arm)]
          refine ⟨⟨h.off, h.arm, h.cap, ?_, h.td⟩, fun e => absurd rfl e⟩
          rw [now_add]
          show ((tot (del k (now s)) : Nat) : Int) ≤ c
          have h6 := tot_del k (now s) hsn
          have h7 := h.tn
          omega
        · exact ⟨h, fun _ => rfl⟩
    · rw [if_neg h2]
      by_cases h3 : kind = 3
      · rw [if_pos h3]
        unfold syncS
        rw [if_neg (by simp [h.off]), if_neg (by simp [spend_not h.arm]), spend_not h.arm]
        exact ⟨⟨h.off, h.arm, h.cap, h.tn, h.tn⟩, fun e => absurd rfl e⟩
      · rw [if_neg h3, if_neg h4, if_neg h5]
        split
        · exact ⟨h, fun _ => rfl⟩
        · exact ⟨h, fun _ => rfl⟩
theorem keys_all (r : List Rec) : keysL ⟨#[]⟩ r = r.map (·.1) := by
  unfold keysL
  have : (fun p : Rec => Lib.hasPrefix (bs p.1) (bs ⟨#[]⟩)) = fun _ => true := by
    funext p
    show List.isPrefixOf [] _ = true
    simp
  rw [this, List.filter_eq_self.2 (fun _ _ => rfl)]
theorem tot_take (r : List Rec) (j : Nat) (p : Rec) (h : r[j]? = some p) : tot (r.take (j + 1)) = tot (r.take j) + cnt p := by
  induction r generalizing j with
  | nil => simp at h
  | cons q r ih =>
    cases j with
    | zero => simp at h; subst h; simp [tot]
    | succ j =>
      simp at h
      simp only [List.take_succ_cons, tot]
      rw [ih j h]; omega
theorem tot_take_le (r : List Rec) (j : Nat) : tot (r.take j) ≤ tot r := by
  induction r generalizing j with
  | nil => simp
  | cons q r ih =>
    cases j with
    | zero => simp [tot]
    | succ j => simp only [List.take_succ_cons, tot]; have := ih j; omega
theorem bytes_is (l m : List UInt8) : Op.bytesLess l m = bytesBefore l m := by
  induction l generalizing m with
  | nil => cases m <;> rfl
  | cons x l ih =>
    cases m with
    | nil => rfl
    | cons y m => show (decide (x < y) || (x == y && Op.bytesLess l m)) = _; rw [ih]; rfl
theorem less_of {a b : ByteArray} (h : lt a b = true) : Op.bytesLess a.toList b.toList = true ∧ (b.toList == a.toList) = false ∧ Op.bytesLess b.toList a.toList = false := by
  refine ⟨?_, ?_, ?_⟩
  · rw [bytes_is, ByteArray.toList_eq, ByteArray.toList_eq]; exact h
  · rw [ByteArray.toList_eq, ByteArray.toList_eq, beq_eq_false_iff_ne]
    intro e
    exact lt_ne h (bs_inj e).symm
  · rw [bytes_is, ByteArray.toList_eq, ByteArray.toList_eq]; exact lt_asym h
theorem below_dN {B : Nat} {w w' : World} (h : Below B w w') (n : Nat) : Below B w (w'.drewN n) := ⟨h.os, h.tape, h.output, h.size, h.block⟩
theorem ops_at {B : Nat} {w : World} {va : Option Addr} {vc : Nat} {l : List Opn} (h : ReadsO B w (.slice va l.length vc) l) (j : Nat) (o : Opn) (ho : l[j]? = some o) (hj : j < l.length) : ∃ b off, va = some ⟨b, off, none⟩ ∧ w.cell? ⟨b, off + j * 4, none⟩ = some (.int .i64 o.kind) ∧ w.cell? ⟨b, off + j * 4 + 1, none⟩ = some (.string o.key) ∧ w.cell? ⟨b, off + j * 4 + 2, none⟩ = some (.string o.data) ∧ w.cell? ⟨b, off + j * 4 + 3, none⟩ = some (.int .i64 o.n) ∧ OkO o := by
  obtain ⟨⟨a', c', e', h1⟩, hev⟩ := h
  injection e' with e1 _ e2
  subst e1 e2
  rcases h1 with h1 | ⟨b, off, rfl, _, hc⟩
  · omega
  · obtain ⟨d0, d1, d2, d3⟩ := hc j o ho
    exact ⟨b, off, rfl, d0, d1, d2, d3, hev o (List.mem_of_getElem? ho)⟩
end Go.Proofs.YtlkkibiedlakfaaGreat.za
