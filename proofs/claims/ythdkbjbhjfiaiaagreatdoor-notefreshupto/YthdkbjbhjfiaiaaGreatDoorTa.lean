import Derived.PlainAid
namespace Go.Proofs.YthdkbjbhjfiaiaaGreatDoor.ta
set_option linter.unusedVariables false
set_option maxRecDepth 4000

-- numbers of f bits taken, numbers of t bits given, the highest first
def flush (t : Nat) : Nat → Int → Nat → List Int × Int × Nat
  | 0, h, c => ([], h, c)
  | n + 1, h, c => if t ≤ c then ((h / 2 ^ (c - t)) :: (flush t n (h % 2 ^ (c - t)) (c - t)).1, (flush t n (h % 2 ^ (c - t)) (c - t)).2.1, (flush t n (h % 2 ^ (c - t)) (c - t)).2.2) else ([], h, c)
def stp (f t : Nat) (σ : List Int × Int × Nat) (v : Int) : List Int × Int × Nat :=
  (σ.1 ++ (flush t (σ.2.2 + f) (σ.2.1 * 2 ^ f + v) (σ.2.2 + f)).1, (flush t (σ.2.2 + f) (σ.2.1 * 2 ^ f + v) (σ.2.2 + f)).2.1, (flush t (σ.2.2 + f) (σ.2.1 * 2 ^ f + v) (σ.2.2 + f)).2.2)
def mach (f t : Nat) (l : List Int) : List Int × Int × Nat := l.foldl (stp f t) ([], 0, 0)
theorem mach_snoc (f t : Nat) (l : List Int) (v : Int) : mach f t (l ++ [v]) = stp f t (mach f t l) v := by simp [mach]

def In (m : Int) (l : List Int) : Prop := ∀ x ∈ l, 0 ≤ x ∧ x < m
theorem In.tail {m x : Int} {l : List Int} (h : In m (x :: l)) : In m l := fun y hy => h y (List.mem_cons_of_mem _ hy)
theorem In.head {m x : Int} {l : List Int} (h : In m (x :: l)) : 0 ≤ x ∧ x < m := h x List.mem_cons_self
theorem In.app {m : Int} {a b : List Int} (h : In m a) (k : In m b) : In m (a ++ b) := fun x hx => (List.mem_append.1 hx).elim (h x) (k x)
theorem In.left {m : Int} {a b : List Int} (h : In m (a ++ b)) : In m a := fun x hx => h x (List.mem_append.2 (.inl hx))
theorem In.right {m : Int} {a b : List Int} (h : In m (a ++ b)) : In m b := fun x hx => h x (List.mem_append.2 (.inr hx))
theorem In.rep {m : Int} (n : Nat) (x : Int) (h0 : 0 ≤ x) (h1 : x < m) : In m (List.replicate n x) := fun y hy => by rw [List.eq_of_mem_replicate hy]; exact ⟨h0, h1⟩

-- 8 to 6
def sixes : List Int → List Int
  | a :: b :: c :: r => a / 4 :: (a % 4 * 16 + b / 16) :: (b % 16 * 4 + c / 64) :: c % 64 :: sixes r
  | _ => []
theorem stp86 (l : List Int) (a b c : Int) (ha : 0 ≤ a ∧ a < 256) (hb : 0 ≤ b ∧ b < 256) (hc : 0 ≤ c ∧ c < 256) :
    stp 8 6 (stp 8 6 (stp 8 6 (l, 0, 0) a) b) c = (l ++ [a / 4, a % 4 * 16 + b / 16, b % 16 * 4 + c / 64, c % 64], 0, 0) := by
  simp [stp, flush]
  omega
theorem mach86_go (n : Nat) : ∀ (l x : List Int), l.length ≤ n → l.length % 3 = 0 → In 256 l → l.foldl (stp 8 6) (x, 0, 0) = (x ++ sixes l, 0, 0) := by
  induction n using Nat.strongRecOn with
  | ind n ih =>
    intro l x hn hl hi
    match l, hn, hl, hi with
    | [], _, _, _ => simp [sixes]
    | [a], _, hl, _ => simp at hl
    | [a, b], _, hl, _ => simp at hl
    | a :: b :: c :: r, hn, hl, hi =>
      rw [List.foldl_cons, List.foldl_cons, List.foldl_cons, stp86 x a b c hi.head hi.tail.head hi.tail.tail.head]
      have hn' : r.length + 3 ≤ n := by simpa using hn
      rw [ih (n - 3) (by omega) r _ (by omega) (by simp at hl; omega) hi.tail.tail.tail]
      simp [sixes]
theorem mach86 (l : List Int) (hl : l.length % 3 = 0) (hi : In 256 l) : mach 8 6 l = (sixes l, 0, 0) := by
  have := mach86_go l.length l [] (Nat.le_refl _) hl hi
  simpa [mach] using this

def eights : List Int → List Int
  | p :: q :: r :: s :: t => (p * 4 + q / 16) :: (q % 16 * 16 + r / 4) :: (r % 4 * 64 + s) :: eights t
  | _ => []
theorem stp68 (l : List Int) (p q r s : Int) (hp : 0 ≤ p ∧ p < 64) (hq : 0 ≤ q ∧ q < 64) (hr : 0 ≤ r ∧ r < 64) (hs : 0 ≤ s ∧ s < 64) :
    stp 6 8 (stp 6 8 (stp 6 8 (stp 6 8 (l, 0, 0) p) q) r) s = (l ++ [p * 4 + q / 16, q % 16 * 16 + r / 4, r % 4 * 64 + s], 0, 0) := by
  simp [stp, flush]
  omega
theorem mach68_go (n : Nat) : ∀ (l x : List Int), l.length ≤ n → l.length % 4 = 0 → In 64 l → l.foldl (stp 6 8) (x, 0, 0) = (x ++ eights l, 0, 0) := by
  induction n using Nat.strongRecOn with
  | ind n ih =>
    intro l x hn hl hi
    match l, hn, hl, hi with
    | [], _, _, _ => simp [eights]
    | [a], _, hl, _ => simp at hl
    | [a, b], _, hl, _ => simp at hl
    | [a, b, c], _, hl, _ => simp at hl
    | a :: b :: c :: d :: r, hn, hl, hi =>
      rw [List.foldl_cons, List.foldl_cons, List.foldl_cons, List.foldl_cons, stp68 x a b c d hi.head hi.tail.head hi.tail.tail.head hi.tail.tail.tail.head]
      have hn' : r.length + 4 ≤ n := by simpa using hn
      rw [ih (n - 4) (by omega) r _ (by omega) (by simp at hl; omega) hi.tail.tail.tail.tail]
      simp [eights]
theorem mach68 (l : List Int) (hl : l.length % 4 = 0) (hi : In 64 l) : mach 6 8 l = (eights l, 0, 0) := by
  have := mach68_go l.length l [] (Nat.le_refl _) hl hi
  simpa [mach] using this

theorem sixes_length (n : Nat) : ∀ l : List Int, l.length = 3 * n → (sixes l).length = 4 * n := by
  induction n with
  | zero => intro l h; cases l with
    | nil => rfl
    | cons => simp at h
  | succ n ih =>
    intro l h
    match l, h with
    | [], h => simp at h
    | [a], h => simp at h; omega
    | [a, b], h => simp at h; omega
    | a :: b :: c :: r, h => simp [sixes, ih r (by simp at h; omega)]; omega
theorem eights_length (n : Nat) : ∀ l : List Int, l.length = 4 * n → (eights l).length = 3 * n := by
  induction n with
  | zero => intro l h; cases l with
    | nil => rfl
    | cons => simp at h
  | succ n ih =>
    intro l h
    match l, h with
    | [], h => simp at h
    | [a], h => simp at h; omega
    | [a, b], h => simp at h; omega
    | [a, b, c], h => simp at h; omega
    | a :: b :: c :: d :: r, h => simp [eights, ih r (by simp at h; omega)]; omega
theorem sixes_in (n : Nat) : ∀ l : List Int, l.length ≤ n → In 256 l → In 64 (sixes l) := by
  induction n using Nat.strongRecOn with
  | ind n ih =>
    intro l hn hi
    match l, hn, hi with
    | [], _, _ => intro x hx; simp [sixes] at hx
    | [a], _, _ => intro x hx; simp [sixes] at hx
    | [a, b], _, _ => intro x hx; simp [sixes] at hx
    | a :: b :: c :: r, hn, hi =>
      have h1 := hi.head; have h2 := hi.tail.head; have h3 := hi.tail.tail.head
      have hn' : r.length + 3 ≤ n := by simpa using hn
      have h4 := ih (n - 3) (by omega) r (by omega) hi.tail.tail.tail
      intro x hx
      simp [sixes] at hx
      rcases hx with rfl | rfl | rfl | rfl | hx
      · omega
      · omega
      · omega
      · omega
      · exact h4 x hx
theorem eights_in (n : Nat) : ∀ l : List Int, l.length ≤ n → In 64 l → In 256 (eights l) := by
  induction n using Nat.strongRecOn with
  | ind n ih =>
    intro l hn hi
    match l, hn, hi with
    | [], _, _ => intro x hx; simp [eights] at hx
    | [a], _, _ => intro x hx; simp [eights] at hx
    | [a, b], _, _ => intro x hx; simp [eights] at hx
    | [a, b, c], _, _ => intro x hx; simp [eights] at hx
    | a :: b :: c :: d :: r, hn, hi =>
      have h1 := hi.head; have h2 := hi.tail.head; have h3 := hi.tail.tail.head; have h5 := hi.tail.tail.tail.head
      have hn' : r.length + 4 ≤ n := by simpa using hn
      have h4 := ih (n - 4) (by omega) r (by omega) hi.tail.tail.tail.tail
      intro x hx
      simp [eights] at hx
      rcases hx with rfl | rfl | rfl | hx
      · omega
      · omega
      · omega
      · exact h4 x hx
theorem eights_sixes (n : Nat) : ∀ l : List Int, l.length = 3 * n → In 256 l → eights (sixes l) = l := by
  induction n with
  | zero => intro l h _; cases l with
    | nil => rfl
    | cons => simp at h
  | succ n ih =>
    intro l h hi
    match l, h, hi with
    | [], h, _ => simp at h
    | [a], h, _ => simp at h; omega
    | [a, b], h, _ => simp at h; omega
    | a :: b :: c :: r, h, hi =>
      have h1 := hi.head; have h2 := hi.tail.head; have h3 := hi.tail.tail.head
      have e := ih r (by simp at h; omega) hi.tail.tail.tail
      simp [sixes, eights, e]
      omega
theorem sixes_eights (n : Nat) : ∀ l : List Int, l.length = 4 * n → In 64 l → sixes (eights l) = l := by
  induction n with
  | zero => intro l h _; cases l with
    | nil => rfl
    | cons => simp at h
  | succ n ih =>
    intro l h hi
    match l, h, hi with
    | [], h, _ => simp at h
    | [a], h, _ => simp at h; omega
    | [a, b], h, _ => simp at h; omega
    | [a, b, c], h, _ => simp at h; omega
    | a :: b :: c :: d :: r, h, hi =>
      have h1 := hi.head; have h2 := hi.tail.head; have h3 := hi.tail.tail.head; have h4 := hi.tail.tail.tail.head
      have e := ih r (by simp at h; omega) hi.tail.tail.tail.tail
      simp [sixes, eights, e]
      omega
theorem sixes_app (n : Nat) : ∀ a b : List Int, a.length = 3 * n → sixes (a ++ b) = sixes a ++ sixes b := by
  induction n with
  | zero => intro a b h; cases a with
    | nil => rfl
    | cons => simp at h
  | succ n ih =>
    intro a b h
    match a, h with
    | [], h => simp at h
    | [_], h => simp at h; omega
    | [_, _], h => simp at h; omega
    | x :: y :: z :: r, h => simp [sixes, ih r b (by simp at h; omega)]

-- 8 to 4
def nibs : List Int → List Int
  | [] => []
  | a :: r => a / 16 :: a % 16 :: nibs r
def pairs : List Int → List Int
  | p :: q :: r => (p * 16 + q) :: pairs r
  | _ => []
theorem stp84 (l : List Int) (a : Int) (ha : 0 ≤ a ∧ a < 256) : stp 8 4 (l, 0, 0) a = (l ++ [a / 16, a % 16], 0, 0) := by
  simp [stp, flush]
theorem stp48 (l : List Int) (p q : Int) (hp : 0 ≤ p ∧ p < 16) (hq : 0 ≤ q ∧ q < 16) : stp 4 8 (stp 4 8 (l, 0, 0) p) q = (l ++ [p * 16 + q], 0, 0) := by
  simp [stp, flush]
theorem mach84_go (l x : List Int) (hi : In 256 l) : l.foldl (stp 8 4) (x, 0, 0) = (x ++ nibs l, 0, 0) := by
  induction l generalizing x with
  | nil => simp [nibs]
  | cons a r ih =>
    rw [List.foldl_cons, stp84 x a hi.head, ih _ hi.tail]
    simp [nibs]
theorem mach84 (l : List Int) (hi : In 256 l) : mach 8 4 l = (nibs l, 0, 0) := by
  have := mach84_go l [] hi
  simpa [mach] using this
theorem mach48_go (n : Nat) : ∀ (l x : List Int), l.length = 2 * n → In 16 l → l.foldl (stp 4 8) (x, 0, 0) = (x ++ pairs l, 0, 0) := by
  induction n with
  | zero => intro l x h _; cases l with
    | nil => simp [pairs]
    | cons => simp at h
  | succ n ih =>
    intro l x h hi
    match l, h, hi with
    | [], h, _ => simp at h
    | [a], h, _ => simp at h; omega
    | a :: b :: r, h, hi =>
      rw [List.foldl_cons, List.foldl_cons, stp48 x a b hi.head hi.tail.head, ih r _ (by simp at h; omega) hi.tail.tail]
      simp [pairs]
theorem mach48 (n : Nat) (l : List Int) (hl : l.length = 2 * n) (hi : In 16 l) : mach 4 8 l = (pairs l, 0, 0) := by
  have := mach48_go n l [] hl hi
  simpa [mach] using this
theorem nibs_length (l : List Int) : (nibs l).length = 2 * l.length := by
  induction l with
  | nil => rfl
  | cons a r ih => simp [nibs, ih]; omega
theorem pairs_length (n : Nat) : ∀ l : List Int, l.length = 2 * n → (pairs l).length = n := by
  induction n with
  | zero => intro l h; cases l with
    | nil => rfl
    | cons => simp at h
  | succ n ih =>
    intro l h
    match l, h with
    | [], h => simp at h
    | [a], h => simp at h; omega
    | a :: b :: r, h => simp [pairs, ih r (by simp at h; omega)]
theorem nibs_in (l : List Int) (hi : In 256 l) : In 16 (nibs l) := by
  induction l with
  | nil => intro x hx; simp [nibs] at hx
  | cons a r ih =>
    have h1 := hi.head
    intro x hx
    simp [nibs] at hx
    rcases hx with rfl | rfl | hx
    · omega
    · omega
    · exact ih hi.tail x hx
theorem pairs_in (n : Nat) : ∀ l : List Int, l.length = 2 * n → In 16 l → In 256 (pairs l) := by
  induction n with
  | zero => intro l h _; cases l with
    | nil => intro x hx; simp [pairs] at hx
    | cons => simp at h
  | succ n ih =>
    intro l h hi
    match l, h, hi with
    | [], h, _ => simp at h
    | [a], h, _ => simp at h; omega
    | a :: b :: r, h, hi =>
      have h1 := hi.head; have h2 := hi.tail.head
      intro x hx
      simp [pairs] at hx
      rcases hx with rfl | hx
      · omega
      · exact ih r (by simp at h; omega) hi.tail.tail x hx
theorem pairs_nibs (l : List Int) : pairs (nibs l) = l := by
  induction l with
  | nil => rfl
  | cons a r ih => simp [nibs, pairs, ih]; omega
theorem nibs_pairs (n : Nat) : ∀ l : List Int, l.length = 2 * n → In 16 l → nibs (pairs l) = l := by
  induction n with
  | zero => intro l h _; cases l with
    | nil => rfl
    | cons => simp at h
  | succ n ih =>
    intro l h hi
    match l, h, hi with
    | [], h, _ => simp at h
    | [a], h, _ => simp at h; omega
    | a :: b :: r, h, hi =>
      have h1 := hi.head; have h2 := hi.tail.head
      simp [nibs, pairs, ih r (by simp at h; omega) hi.tail.tail]
      omega
theorem nibs_app (a b : List Int) : nibs (a ++ b) = nibs a ++ nibs b := by
  induction a with
  | nil => rfl
  | cons x a ih => simp [nibs, ih]
end Go.Proofs.YthdkbjbhjfiaiaaGreatDoor.ta
