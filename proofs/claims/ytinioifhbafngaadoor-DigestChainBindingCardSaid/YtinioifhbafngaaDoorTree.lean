/- Plain mathematics of trees of digests and of chains: lists of bytes and natural numbers alone; the digest is any function that returns 32 bytes. -/
namespace Go.Proofs.YtinioifhbafngaaDoor

abbrev Bs := List UInt8

def leftA : Nat → Nat → Nat → Nat
  | 0, k, _ => k
  | f + 1, k, n => if k < n - k then leftA f (2 * k) n else k
def left (n : Nat) : Nat := leftA n 1 n

theorem leftA_spec (f k n j : Nat) (hk : k = 2 ^ j) (hn : k < n) (hf : n ≤ k + f) : ∃ i, leftA f k n = 2 ^ i ∧ 2 ^ i < n ∧ n ≤ 2 ^ (i + 1) := by
  induction f generalizing k j with
  | zero => omega
  | succ f ih =>
    unfold leftA
    have hp : 0 < 2 ^ j := Nat.two_pow_pos j
    by_cases h : k < n - k
    · rw [if_pos h]
      exact ih (2 * k) (j + 1) (by rw [hk, Nat.pow_succ, Nat.mul_comm]) (by omega) (by omega)
    · rw [if_neg h]
      exact ⟨j, hk, by omega, by rw [Nat.pow_succ]; omega⟩
theorem left_spec (n : Nat) (h : 2 ≤ n) : ∃ i, left n = 2 ^ i ∧ 2 ^ i < n ∧ n ≤ 2 ^ (i + 1) := leftA_spec n 1 n 0 rfl (by omega) (by omega)
theorem left_range (n : Nat) (h : 2 ≤ n) : 1 ≤ left n ∧ left n < n ∧ n - left n ≤ left n := by
  obtain ⟨i, h1, h2, h3⟩ := left_spec n h
  have hp : 0 < 2 ^ i := Nat.two_pow_pos i
  rw [Nat.pow_succ] at h3
  omega
theorem left_pow (n d : Nat) (h : 2 ≤ n) (hd : n ≤ 2 ^ (d + 1)) : left n ≤ 2 ^ d ∧ n - left n ≤ 2 ^ d := by
  obtain ⟨i, h1, h2, h3⟩ := left_spec n h
  have hi : i < d + 1 := (Nat.pow_lt_pow_iff_right (show 1 < 2 by omega)).1 (Nat.lt_of_lt_of_le h2 hd)
  have h4 : 2 ^ i ≤ 2 ^ d := Nat.pow_le_pow_right (by omega) (by omega)
  have := left_range n h
  omega

section
variable (hs : Bs → Bs)

def leafF (s : Bs) : Bs := hs (0 :: s)
def nodeF (a b : Bs) : Bs := hs (1 :: (a ++ b))
def chainF (h r : Bs) : Bs := hs (2 :: (h ++ r))

def rootA : Nat → List Bs → Bs
  | 0, _ => hs []
  | f + 1, l =>
    match l with
    | [] => hs []
    | [x] => leafF hs x
    | l => nodeF hs (rootA f (l.take (left l.length))) (rootA f (l.drop (left l.length)))
def rootF (l : List Bs) : Bs := rootA hs l.length l

theorem rootA_two (f : Nat) (l : List Bs) (h : 2 ≤ l.length) : rootA hs (f + 1) l = nodeF hs (rootA hs f (l.take (left l.length))) (rootA hs f (l.drop (left l.length))) := by
  match l, h with
  | _ :: _ :: _, _ => rfl
theorem rootA_fuel (f g : Nat) (l : List Bs) (hf : l.length ≤ f) (hg : l.length ≤ g) : rootA hs f l = rootA hs g l := by
  induction f generalizing g l with
  | zero =>
    have hl : l = [] := List.length_eq_zero_iff.1 (by omega)
    subst hl
    cases g <;> rfl
  | succ f ih =>
    cases g with
    | zero =>
      have hl : l = [] := List.length_eq_zero_iff.1 (by omega)
      subst hl; rfl
    | succ g =>
      by_cases h : 2 ≤ l.length
      · have hr := left_range _ h
        rw [rootA_two hs f l h, rootA_two hs g l h]
        rw [ih g (l.take (left l.length)) (by rw [List.length_take]; omega) (by rw [List.length_take]; omega), ih g (l.drop (left l.length)) (by rw [List.length_drop]; omega) (by rw [List.length_drop]; omega)]
      · match l, h with
        | [], _ => rfl
        | [_], _ => rfl
        | _ :: _ :: _, h => simp at h
theorem root_nil : rootF hs [] = hs [] := rfl
theorem root_one (x : Bs) : rootF hs [x] = leafF hs x := rfl
theorem root_two (l : List Bs) (h : 2 ≤ l.length) : rootF hs l = nodeF hs (rootF hs (l.take (left l.length))) (rootF hs (l.drop (left l.length))) := by
  have hr := left_range _ h
  unfold rootF
  obtain ⟨n, hn⟩ : ∃ n, l.length = n + 1 := ⟨l.length - 1, by omega⟩
  conv => lhs; rw [hn]
  rw [rootA_two hs n l h]
  rw [rootA_fuel hs n _ (l.take (left l.length)) (by rw [List.length_take]; omega) (Nat.le_refl _), rootA_fuel hs n _ (l.drop (left l.length)) (by rw [List.length_drop]; omega) (Nat.le_refl _)]

/-! ### Proofs of entries -/
def proofA : Nat → List Bs → Nat → List Bs
  | 0, _, _ => []
  | f + 1, l, i =>
    if l.length ≤ 1 then [] else
    if i < left l.length then proofA f (l.take (left l.length)) i ++ [rootF hs (l.drop (left l.length))]
    else proofA f (l.drop (left l.length)) (i - left l.length) ++ [rootF hs (l.take (left l.length))]
def proofF (l : List Bs) (i : Nat) : List Bs := proofA hs l.length l i

/-- The value of n, i and a proof (its last element first), and whether the proof has the right length. -/
def valR : List Bs → Nat → Nat → Bs → Bs × Bool
  | [], n, _, s => if n = 1 then (leafF hs s, true) else ([], false)
  | x :: r, n, i, s =>
    if n = 1 then (leafF hs s, false) else
    if i < left n then (nodeF hs (valR r (left n) i s).1 x, (valR r (left n) i s).2)
    else (nodeF hs x (valR r (n - left n) (i - left n) s).1, (valR r (n - left n) (i - left n) s).2)

theorem val_proofA (f : Nat) (l : List Bs) (i : Nat) (s : Bs) (hf : l.length ≤ f) (hi : l[i]? = some s) : valR hs (proofA hs f l i).reverse l.length i s = (rootF hs l, true) := by
  induction f generalizing l i with
  | zero =>
    have hl : l = [] := List.length_eq_zero_iff.1 (by omega)
    subst hl; simp at hi
  | succ f ih =>
    have hlt : i < l.length := (List.getElem?_eq_some_iff.1 hi).1
    unfold proofA
    by_cases h : l.length ≤ 1
    · rw [if_pos h]
      match l, h, hlt, hi with
      | [x], _, hlt, hi =>
        have h0 : i = 0 := by simpa using hlt
        subst h0
        simp at hi
        subst hi
        simp [valR, root_one]
      | _ :: _ :: _, h, _, _ => simp at h
    · rw [if_neg h]
      have h2 : 2 ≤ l.length := by omega
      have hr := left_range _ h2
      by_cases hk : i < left l.length
      · rw [if_pos hk, List.reverse_append, List.reverse_singleton, List.singleton_append, valR, if_neg (by omega), if_pos hk]
        have hlen : (l.take (left l.length)).length = left l.length := by rw [List.length_take]; omega
        have hv := ih (l.take (left l.length)) i (by omega) (by rw [List.getElem?_take_of_lt hk]; exact hi)
        rw [hlen] at hv
        rw [hv, root_two hs l h2]
      · rw [if_neg hk, List.reverse_append, List.reverse_singleton, List.singleton_append, valR, if_neg (by omega), if_neg hk]
        have hlen : (l.drop (left l.length)).length = l.length - left l.length := List.length_drop
        have hv := ih (l.drop (left l.length)) (i - left l.length) (by omega) (by rw [List.getElem?_drop, show left l.length + (i - left l.length) = i by omega]; exact hi)
        rw [hlen] at hv
        rw [hv, root_two hs l h2]
theorem val_proof (l : List Bs) (i : Nat) (s : Bs) (hi : l[i]? = some s) : valR hs (proofF hs l i).reverse l.length i s = (rootF hs l, true) := val_proofA hs _ l i s (Nat.le_refl _) hi

theorem proofA_length (f : Nat) (l : List Bs) (i d : Nat) (hd : l.length ≤ 2 ^ d) : (proofA hs f l i).length ≤ d := by
  induction f generalizing l i d with
  | zero => simp [proofA]
  | succ f ih =>
    unfold proofA
    by_cases h : l.length ≤ 1
    · rw [if_pos h]; simp
    · rw [if_neg h]
      cases d with
      | zero => simp at hd; omega
      | succ d =>
        obtain ⟨p1, p2⟩ := left_pow l.length d (by omega) hd
        by_cases hk : i < left l.length
        · rw [if_pos hk, List.length_append]
          have := ih (l.take (left l.length)) i d (by rw [List.length_take]; omega)
          simp; omega
        · rw [if_neg hk, List.length_append]
          have := ih (l.drop (left l.length)) (i - left l.length) d (by rw [List.length_drop]; omega)
          simp; omega

/-- The only length that is accepted does not depend on what is proved. -/
theorem val_ok_length (r q : List Bs) (n i : Nat) (s t : Bs) (h : (valR hs r n i s).2 = true) (h' : (valR hs q n i t).2 = true) : r.length = q.length := by
  induction r generalizing q n i with
  | nil =>
    unfold valR at h
    by_cases h1 : n = 1
    · cases q with
      | nil => rfl
      | cons y q => unfold valR at h'; rw [if_pos h1] at h'; cases h'
    · rw [if_neg h1] at h; cases h
  | cons x r ih =>
    unfold valR at h
    by_cases h1 : n = 1
    · rw [if_pos h1] at h; cases h
    · rw [if_neg h1] at h
      cases q with
      | nil => unfold valR at h'; rw [if_neg h1] at h'; cases h'
      | cons y q =>
        unfold valR at h'
        rw [if_neg h1] at h'
        by_cases hk : i < left n
        · rw [if_pos hk] at h h'
          simp only [List.length_cons]; rw [ih q _ _ h h']
        · rw [if_neg hk] at h h'
          simp only [List.length_cons]; rw [ih q _ _ h h']

/-- The strings that are hashed for a proof, from the root on. -/
def wayR : List Bs → Nat → Nat → Bs → List Bs
  | [], _, _, s => [0 :: s]
  | x :: r, n, i, s =>
    if n ≤ 1 then [0 :: s] else
    if i < left n then (1 :: ((valR hs r (left n) i s).1 ++ x)) :: wayR r (left n) i s
    else (1 :: (x ++ (valR hs r (n - left n) (i - left n) s).1)) :: wayR r (n - left n) (i - left n) s

theorem valR_lt (x : Bs) (r : List Bs) (n i : Nat) (s : Bs) (h1 : ¬ n = 1) (hk : i < left n) : valR hs (x :: r) n i s = (nodeF hs (valR hs r (left n) i s).1 x, (valR hs r (left n) i s).2) := by
  rw [valR, if_neg h1, if_pos hk]
theorem valR_ge (x : Bs) (r : List Bs) (n i : Nat) (s : Bs) (h1 : ¬ n = 1) (hk : ¬ i < left n) : valR hs (x :: r) n i s = (nodeF hs x (valR hs r (n - left n) (i - left n) s).1, (valR hs r (n - left n) (i - left n) s).2) := by
  rw [valR, if_neg h1, if_neg hk]
theorem wayR_lt (x : Bs) (r : List Bs) (n i : Nat) (s : Bs) (h1 : ¬ n ≤ 1) (hk : i < left n) : wayR hs (x :: r) n i s = (1 :: ((valR hs r (left n) i s).1 ++ x)) :: wayR hs r (left n) i s := by
  rw [wayR, if_neg h1, if_pos hk]
theorem wayR_ge (x : Bs) (r : List Bs) (n i : Nat) (s : Bs) (h1 : ¬ n ≤ 1) (hk : ¬ i < left n) : wayR hs (x :: r) n i s = (1 :: (x ++ (valR hs r (n - left n) (i - left n) s).1)) :: wayR hs r (n - left n) (i - left n) s := by
  rw [wayR, if_neg h1, if_neg hk]

/-- Two different strings at one place of two lists have the same digest. -/
def Collide (a b : List Bs) : Prop := ∃ (j : Nat) (u v : Bs), a[j]? = some u ∧ b[j]? = some v ∧ u ≠ v ∧ hs u = hs v
theorem Collide.cons {a b : List Bs} (x y : Bs) (h : Collide hs a b) : Collide hs (x :: a) (y :: b) := by
  obtain ⟨j, u, v, h1, h2, h3, h4⟩ := h
  exact ⟨j + 1, u, v, by simpa using h1, by simpa using h2, h3, h4⟩

variable (h32 : ∀ s, (hs s).length = 32)

include h32 in
theorem val_length (r : List Bs) (n i : Nat) (s : Bs) (h : (valR hs r n i s).2 = true) : (valR hs r n i s).1.length = 32 := by
  cases r with
  | nil =>
    unfold valR at h ⊢
    by_cases h1 : n = 1
    · rw [if_pos h1]; exact h32 _
    · rw [if_neg h1] at h; cases h
  | cons x r =>
    unfold valR at h ⊢
    by_cases h1 : n = 1
    · rw [if_pos h1] at h; cases h
    · rw [if_neg h1] at h ⊢
      by_cases hk : i < left n
      · rw [if_pos hk]; exact h32 _
      · rw [if_neg hk]; exact h32 _

include h32 in
theorem binding (r q : List Bs) (n i : Nat) (s t : Bs) (hn : i < n) (hr : ∀ x ∈ r, x.length = 32) (hq : ∀ x ∈ q, x.length = 32)
    (h : (valR hs r n i s).2 = true) (h' : (valR hs q n i t).2 = true) (he : (valR hs r n i s).1 = (valR hs q n i t).1) (hst : s ≠ t) :
    Collide hs (wayR hs r n i s) (wayR hs q n i t) := by
  induction r generalizing q n i with
  | nil =>
    have hl := val_ok_length hs [] q n i s t h h'
    have hq0 : q = [] := List.length_eq_zero_iff.1 (by simpa using hl.symm)
    subst hq0
    unfold valR at h
    by_cases h1 : n = 1
    · have e : ∀ u, valR hs [] n i u = (leafF hs u, true) := fun u => by rw [valR, if_pos h1]
      rw [e, e] at he
      exact ⟨0, _, _, rfl, rfl, by intro e; exact hst (by simpa using e), he⟩
    · rw [if_neg h1] at h; cases h
  | cons x r ih =>
    have hl := val_ok_length hs (x :: r) q n i s t h h'
    match q, hl with
    | y :: q, hl =>
      have h1 : ¬ n = 1 := by
        intro h1
        unfold valR at h
        rw [if_pos h1] at h; cases h
      have h2 : 2 ≤ n := by omega
      have hrg := left_range n h2
      have hx := hr x (by simp)
      have hy := hq y (by simp)
      have hr' : ∀ z ∈ r, z.length = 32 := fun z hz => hr z (by simp [hz])
      have hq' : ∀ z ∈ q, z.length = 32 := fun z hz => hq z (by simp [hz])
      have h3 : ¬ n ≤ 1 := by omega
      by_cases hk : i < left n
      · rw [valR_lt hs x r n i s h1 hk] at h he
        rw [valR_lt hs y q n i t h1 hk] at h' he
        rw [wayR_lt hs x r n i s h3 hk, wayR_lt hs y q n i t h3 hk]
        by_cases hd : (1 :: ((valR hs r (left n) i s).1 ++ x) : Bs) = 1 :: ((valR hs q (left n) i t).1 ++ y)
        · have ha : (valR hs r (left n) i s).1 ++ x = (valR hs q (left n) i t).1 ++ y := by simpa using hd
          have hb := List.append_inj ha (by rw [val_length hs h32 _ _ _ _ h, val_length hs h32 _ _ _ _ h'])
          exact Collide.cons hs _ _ (ih q (left n) i hk hr' hq' h h' hb.1)
        · exact ⟨0, _, _, rfl, rfl, hd, he⟩
      · rw [valR_ge hs x r n i s h1 hk] at h he
        rw [valR_ge hs y q n i t h1 hk] at h' he
        rw [wayR_ge hs x r n i s h3 hk, wayR_ge hs y q n i t h3 hk]
        by_cases hd : (1 :: (x ++ (valR hs r (n - left n) (i - left n) s).1) : Bs) = 1 :: (y ++ (valR hs q (n - left n) (i - left n) t).1)
        · have ha : x ++ (valR hs r (n - left n) (i - left n) s).1 = y ++ (valR hs q (n - left n) (i - left n) t).1 := by simpa using hd
          have hb := List.append_inj ha (by rw [hx, hy])
          exact Collide.cons hs _ _ (ih q (n - left n) (i - left n) (by omega) hr' hq' h h' hb.2)
        · exact ⟨0, _, _, rfl, rfl, hd, he⟩

/-! ### Extensions -/
def partA : Nat → List Bs → Nat → Bool → List Bs
  | 0, _, _, _ => []
  | f + 1, l, m, whole =>
    if m = l.length then (if whole then [] else [rootF hs l]) else
    if m ≤ left l.length then partA f (l.take (left l.length)) m whole ++ [rootF hs (l.drop (left l.length))]
    else partA f (l.drop (left l.length)) (m - left l.length) false ++ [rootF hs (l.take (left l.length))]
def extF (l : List Bs) (m : Nat) : List Bs := if m = 0 then [] else partA hs l.length l m true

/-- The two values of m, n, a proof (its last element first) and whole, and whether the proof has the right length. -/
def bothR (old : Bs) : List Bs → Nat → Nat → Bool → Bs × Bs × Bool
  | [], m, n, whole => if m = n then (if whole then (old, old, true) else ([], [], false)) else ([], [], false)
  | x :: r, m, n, whole =>
    if m = n then (if whole then (old, old, false) else if r = [] then (x, x, true) else ([], [], false)) else
    if m ≤ left n then ((bothR old r m (left n) whole).1, nodeF hs (bothR old r m (left n) whole).2.1 x, (bothR old r m (left n) whole).2.2)
    else (nodeF hs x (bothR old r (m - left n) (n - left n) false).1, nodeF hs x (bothR old r (m - left n) (n - left n) false).2.1, (bothR old r (m - left n) (n - left n) false).2.2)

theorem take_left (l : List Bs) (m k : Nat) (h : m ≤ k) : (l.take k).take m = l.take m := by rw [List.take_take, Nat.min_eq_left h]

/-- The root of a beginning that reaches beyond the left part of the whole. -/
theorem left_same (m n : Nat) (hn : 2 ≤ n) (h : left n < m) (hm : m ≤ n) (h2 : 2 ≤ m) : left m = left n := by
  obtain ⟨i, h1, h3, h4⟩ := left_spec n hn
  obtain ⟨j, g1, g3, g4⟩ := left_spec m h2
  rw [h1] at h ⊢
  rw [g1]
  have a1 : i < j + 1 := (Nat.pow_lt_pow_iff_right (show 1 < 2 by omega)).1 (Nat.lt_of_lt_of_le h g4)
  have a2 : j < i + 1 := (Nat.pow_lt_pow_iff_right (show 1 < 2 by omega)).1 (Nat.lt_of_lt_of_le g3 (Nat.le_trans hm h4))
  have : i = j := by omega
  rw [this]

theorem both_partA (f : Nat) (l : List Bs) (m : Nat) (whole : Bool) (old : Bs) (hf : l.length ≤ f) (h0 : 1 ≤ m) (hm : m ≤ l.length) (ho : whole = true → old = rootF hs (l.take m)) :
    bothR hs old (partA hs f l m whole).reverse m l.length whole = (rootF hs (l.take m), rootF hs l, true) := by
  induction f generalizing l m whole with
  | zero => omega
  | succ f ih =>
    unfold partA
    by_cases h : m = l.length
    · rw [if_pos h]
      have ht : l.take m = l := by rw [h, List.take_length]
      cases whole with
      | true =>
        have := ho rfl
        rw [ht] at this
        rw [ht]
        simp [bothR, h, this]
      | false =>
        rw [ht]
        simp [bothR, h]
    · rw [if_neg h]
      have h2 : 2 ≤ l.length := by omega
      have hr := left_range _ h2
      by_cases hk : m ≤ left l.length
      · rw [if_pos hk, List.reverse_append, List.reverse_singleton, List.singleton_append, bothR, if_neg h, if_pos hk]
        have hlen : (l.take (left l.length)).length = left l.length := by rw [List.length_take]; omega
        have hv := ih (l.take (left l.length)) m whole (by omega) h0 (by omega) (fun hw => by rw [take_left _ _ _ hk]; exact ho hw)
        rw [hlen] at hv
        rw [hv, take_left _ _ _ hk, root_two hs l h2]
      · rw [if_neg hk, List.reverse_append, List.reverse_singleton, List.singleton_append, bothR, if_neg h, if_neg hk]
        have hlen : (l.drop (left l.length)).length = l.length - left l.length := List.length_drop
        have hv := ih (l.drop (left l.length)) (m - left l.length) false (by omega) (by omega) (by omega) (fun hw => by cases hw)
        rw [hlen] at hv
        rw [hv]
        have hml : (l.take m).length = m := by rw [List.length_take]; omega
        have hls := left_same m l.length h2 (by omega) hm (by omega)
        have e1 : rootF hs (l.take m) = nodeF hs (rootF hs (l.take (left l.length))) (rootF hs ((l.drop (left l.length)).take (m - left l.length))) := by
          rw [root_two hs (l.take m) (by omega), hml, hls, take_left _ _ _ (by omega), List.drop_take]
        rw [e1, root_two hs l h2]
theorem both_ext (l : List Bs) (m : Nat) (h0 : 1 ≤ m) (hm : m ≤ l.length) : bothR hs (rootF hs (l.take m)) (extF hs l m).reverse m l.length true = (rootF hs (l.take m), rootF hs l, true) := by
  unfold extF
  rw [if_neg (by omega)]
  exact both_partA hs _ l m true _ (Nat.le_refl _) h0 hm (fun _ => rfl)

theorem partA_length (f : Nat) (l : List Bs) (m : Nat) (whole : Bool) (d : Nat) (hd : l.length ≤ 2 ^ d) (h0 : 1 ≤ m) (hm : m ≤ l.length) : (partA hs f l m whole).length ≤ d + 1 := by
  induction f generalizing l m whole d with
  | zero => simp [partA]
  | succ f ih =>
    unfold partA
    by_cases h : m = l.length
    · rw [if_pos h]; cases whole <;> simp
    · rw [if_neg h]
      have h2 : 2 ≤ l.length := by omega
      cases d with
      | zero => simp at hd; omega
      | succ d =>
        have hr := left_range _ h2
        obtain ⟨p1, p2⟩ := left_pow l.length d h2 hd
        by_cases hk : m ≤ left l.length
        · rw [if_pos hk, List.length_append, List.length_singleton]
          have := ih (l.take (left l.length)) m whole d (by rw [List.length_take]; omega) h0 (by rw [List.length_take]; omega)
          omega
        · rw [if_neg hk, List.length_append, List.length_singleton]
          have := ih (l.drop (left l.length)) (m - left l.length) false d (by rw [List.length_drop]; omega) (by omega) (by rw [List.length_drop]; omega)
          omega

theorem bothR_nil (old : Bs) (m n : Nat) (whole : Bool) (h : (bothR hs old [] m n whole).2.2 = true) : m = n ∧ whole = true ∧ bothR hs old [] m n whole = (old, old, true) := by
  unfold bothR at h ⊢
  by_cases h1 : m = n
  · rw [if_pos h1] at h ⊢
    cases whole with
    | true => exact ⟨h1, rfl, rfl⟩
    | false => cases h
  · rw [if_neg h1] at h; cases h
theorem bothR_eq (old x : Bs) (r : List Bs) (m n : Nat) (whole : Bool) (h1 : m = n) (h : (bothR hs old (x :: r) m n whole).2.2 = true) : whole = false ∧ r = [] ∧ bothR hs old (x :: r) m n whole = (x, x, true) := by
  unfold bothR at h ⊢
  rw [if_pos h1] at h ⊢
  cases whole with
  | true => cases h
  | false =>
    by_cases h2 : r = []
    · exact ⟨rfl, h2, by rw [if_neg (by simp), if_pos h2]⟩
    · rw [if_neg (by simp), if_neg h2] at h; cases h
theorem bothR_le (old x : Bs) (r : List Bs) (m n : Nat) (whole : Bool) (h1 : ¬ m = n) (hk : m ≤ left n) : bothR hs old (x :: r) m n whole = ((bothR hs old r m (left n) whole).1, nodeF hs (bothR hs old r m (left n) whole).2.1 x, (bothR hs old r m (left n) whole).2.2) := by
  rw [bothR, if_neg h1, if_pos hk]
theorem bothR_gt (old x : Bs) (r : List Bs) (m n : Nat) (whole : Bool) (h1 : ¬ m = n) (hk : ¬ m ≤ left n) : bothR hs old (x :: r) m n whole = (nodeF hs x (bothR hs old r (m - left n) (n - left n) false).1, nodeF hs x (bothR hs old r (m - left n) (n - left n) false).2.1, (bothR hs old r (m - left n) (n - left n) false).2.2) := by
  rw [bothR, if_neg h1, if_neg hk]

/-- The strings that are hashed for the new root of an extension, from the root on. -/
def sidesR (old : Bs) : List Bs → Nat → Nat → Bool → List Bs
  | [], _, _, _ => []
  | x :: r, m, n, whole =>
    if n ≤ m then [] else
    if m ≤ left n then (1 :: ((bothR hs old r m (left n) whole).2.1 ++ x)) :: sidesR old r m (left n) whole
    else (1 :: (x ++ (bothR hs old r (m - left n) (n - left n) false).2.1)) :: sidesR old r (m - left n) (n - left n) false
theorem sidesR_le (old x : Bs) (r : List Bs) (m n : Nat) (whole : Bool) (h1 : ¬ n ≤ m) (hk : m ≤ left n) : sidesR hs old (x :: r) m n whole = (1 :: ((bothR hs old r m (left n) whole).2.1 ++ x)) :: sidesR hs old r m (left n) whole := by
  rw [sidesR, if_neg h1, if_pos hk]
theorem sidesR_gt (old x : Bs) (r : List Bs) (m n : Nat) (whole : Bool) (h1 : ¬ n ≤ m) (hk : ¬ m ≤ left n) : sidesR hs old (x :: r) m n whole = (1 :: (x ++ (bothR hs old r (m - left n) (n - left n) false).2.1)) :: sidesR hs old r (m - left n) (n - left n) false := by
  rw [sidesR, if_neg h1, if_neg hk]

theorem both_ok_length (a b : Bs) (r q : List Bs) (m n : Nat) (whole : Bool) (h : (bothR hs a r m n whole).2.2 = true) (h' : (bothR hs b q m n whole).2.2 = true) : r.length = q.length := by
  induction r generalizing q m n whole with
  | nil =>
    obtain ⟨h1, hw, _⟩ := bothR_nil hs a m n whole h
    cases q with
    | nil => rfl
    | cons y q => obtain ⟨h2, _, _⟩ := bothR_eq hs b y q m n whole h1 h'; rw [hw] at h2; cases h2
  | cons x r ih =>
    cases q with
    | nil =>
      obtain ⟨h1, hw, _⟩ := bothR_nil hs b m n whole h'
      obtain ⟨h2, _, _⟩ := bothR_eq hs a x r m n whole h1 h; rw [hw] at h2; cases h2
    | cons y q =>
      by_cases h1 : m = n
      · obtain ⟨_, h2, _⟩ := bothR_eq hs a x r m n whole h1 h
        obtain ⟨_, h3, _⟩ := bothR_eq hs b y q m n whole h1 h'
        rw [h2, h3]; rfl
      · by_cases hk : m ≤ left n
        · rw [bothR_le hs a x r m n whole h1 hk] at h
          rw [bothR_le hs b y q m n whole h1 hk] at h'
          rw [List.length_cons, List.length_cons, ih q _ _ _ h h']
        · rw [bothR_gt hs a x r m n whole h1 hk] at h
          rw [bothR_gt hs b y q m n whole h1 hk] at h'
          rw [List.length_cons, List.length_cons, ih q _ _ _ h h']

include h32 in
theorem both_length (old : Bs) (r : List Bs) (m n : Nat) (whole : Bool) (ho : old.length = 32) (hr : ∀ x ∈ r, x.length = 32) (h : (bothR hs old r m n whole).2.2 = true) : (bothR hs old r m n whole).2.1.length = 32 := by
  cases r with
  | nil =>
    obtain ⟨_, _, e⟩ := bothR_nil hs old m n whole h
    rw [e]; exact ho
  | cons x r =>
    by_cases h1 : m = n
    · obtain ⟨_, _, e⟩ := bothR_eq hs old x r m n whole h1 h
      rw [e]; exact hr x (by simp)
    · by_cases hk : m ≤ left n
      · rw [bothR_le hs old x r m n whole h1 hk]; exact h32 _
      · rw [bothR_gt hs old x r m n whole h1 hk]; exact h32 _

include h32 in
theorem ext_binding (a b : Bs) (r q : List Bs) (m n : Nat) (whole : Bool) (hm : m ≤ n) (h0 : 1 ≤ m) (ha : a.length = 32) (hb : b.length = 32) (hr : ∀ x ∈ r, x.length = 32) (hq : ∀ x ∈ q, x.length = 32)
    (h : (bothR hs a r m n whole).2.2 = true) (h' : (bothR hs b q m n whole).2.2 = true) (he : (bothR hs a r m n whole).2.1 = (bothR hs b q m n whole).2.1)
    (hne : (bothR hs a r m n whole).1 ≠ (bothR hs b q m n whole).1) : Collide hs (sidesR hs a r m n whole) (sidesR hs b q m n whole) := by
  induction r generalizing q m n whole with
  | nil =>
    have hl := both_ok_length hs a b [] q m n whole h h'
    have hq0 : q = [] := List.length_eq_zero_iff.1 (by simpa using hl.symm)
    subst hq0
    obtain ⟨_, _, e⟩ := bothR_nil hs a m n whole h
    obtain ⟨_, _, e'⟩ := bothR_nil hs b m n whole h'
    rw [e, e'] at he hne
    exact absurd he hne
  | cons x r ih =>
    have hl := both_ok_length hs a b (x :: r) q m n whole h h'
    match q, hl with
    | y :: q, hl =>
      by_cases h1 : m = n
      · obtain ⟨_, _, e⟩ := bothR_eq hs a x r m n whole h1 h
        obtain ⟨_, _, e'⟩ := bothR_eq hs b y q m n whole h1 h'
        rw [e, e'] at he hne
        exact absurd he hne
      · have h2 : 2 ≤ n := by omega
        have hrg := left_range n h2
        have hx := hr x (by simp)
        have hy := hq y (by simp)
        have hr' : ∀ z ∈ r, z.length = 32 := fun z hz => hr z (by simp [hz])
        have hq' : ∀ z ∈ q, z.length = 32 := fun z hz => hq z (by simp [hz])
        have h3 : ¬ n ≤ m := by omega
        by_cases hk : m ≤ left n
        · rw [bothR_le hs a x r m n whole h1 hk] at h he hne
          rw [bothR_le hs b y q m n whole h1 hk] at h' he hne
          rw [sidesR_le hs a x r m n whole h3 hk, sidesR_le hs b y q m n whole h3 hk]
          by_cases hd : (1 :: ((bothR hs a r m (left n) whole).2.1 ++ x) : Bs) = 1 :: ((bothR hs b q m (left n) whole).2.1 ++ y)
          · have hc : (bothR hs a r m (left n) whole).2.1 ++ x = (bothR hs b q m (left n) whole).2.1 ++ y := by simpa using hd
            have hi := List.append_inj hc (by rw [both_length hs h32 _ _ _ _ _ ha hr' h, both_length hs h32 _ _ _ _ _ hb hq' h'])
            exact Collide.cons hs _ _ (ih q m (left n) whole hk h0 hr' hq' h h' hi.1 hne)
          · exact ⟨0, _, _, rfl, rfl, hd, he⟩
        · rw [bothR_gt hs a x r m n whole h1 hk] at h he hne
          rw [bothR_gt hs b y q m n whole h1 hk] at h' he hne
          rw [sidesR_gt hs a x r m n whole h3 hk, sidesR_gt hs b y q m n whole h3 hk]
          by_cases hd : (1 :: (x ++ (bothR hs a r (m - left n) (n - left n) false).2.1) : Bs) = 1 :: (y ++ (bothR hs b q (m - left n) (n - left n) false).2.1)
          · have hc : x ++ (bothR hs a r (m - left n) (n - left n) false).2.1 = y ++ (bothR hs b q (m - left n) (n - left n) false).2.1 := by simpa using hd
            have hi := List.append_inj hc (by rw [hx, hy])
            refine Collide.cons hs _ _ (ih q (m - left n) (n - left n) false (by omega) (by omega) hr' hq' h h' hi.2 ?_)
            intro hf
            apply hne
            show nodeF hs x _ = nodeF hs y _
            rw [hf, hi.1]
          · exact ⟨0, _, _, rfl, rfl, hd, he⟩

/-! ### Chains: lists of records with the last one first -/
def zero32 : Bs := List.replicate 32 0
def headR : List Bs → Bs
  | [] => zero32
  | x :: r => chainF hs (headR r) x
def chainR : List Bs → List Bs
  | [] => []
  | x :: r => (2 :: (headR hs r ++ x)) :: chainR r

include h32 in
theorem head_length (r : List Bs) : (headR hs r).length = 32 := by
  cases r with
  | nil => rfl
  | cons x r => exact h32 _
theorem chainR_length (r : List Bs) : (chainR hs r).length = r.length := by
  induction r with
  | nil => rfl
  | cons x r ih => simp [chainR, ih]

include h32 in
theorem chain_binding (r q : List Bs) (he : headR hs r = headR hs q) (hne : r ≠ q) :
    Collide hs (chainR hs r) (chainR hs q) ∨ (r.length < q.length ∧ ∃ u, (chainR hs q)[r.length]? = some u ∧ hs u = zero32) ∨ (q.length < r.length ∧ ∃ u, (chainR hs r)[q.length]? = some u ∧ hs u = zero32) := by
  induction r generalizing q with
  | nil =>
    cases q with
    | nil => exact absurd rfl hne
    | cons y q => exact Or.inr (Or.inl ⟨by simp, _, rfl, he.symm⟩)
  | cons x r ih =>
    cases q with
    | nil => exact Or.inr (Or.inr ⟨by simp, _, rfl, he⟩)
    | cons y q =>
      by_cases hd : (2 :: (headR hs r ++ x) : Bs) = 2 :: (headR hs q ++ y)
      · have hc : headR hs r ++ x = headR hs q ++ y := by simpa using hd
        have hi := List.append_inj hc (by rw [head_length hs h32, head_length hs h32])
        rcases ih q hi.1 (fun e => hne (by rw [e, hi.2])) with h | ⟨h1, u, h2, h3⟩ | ⟨h1, u, h2, h3⟩
        · exact Or.inl (Collide.cons hs _ _ h)
        · exact Or.inr (Or.inl ⟨by simpa using h1, u, by simpa [chainR] using h2, h3⟩)
        · exact Or.inr (Or.inr ⟨by simpa using h1, u, by simpa [chainR] using h2, h3⟩)
      · exact Or.inl ⟨0, _, _, rfl, rfl, hd, he⟩
end

end Go.Proofs.YtinioifhbafngaaDoor
