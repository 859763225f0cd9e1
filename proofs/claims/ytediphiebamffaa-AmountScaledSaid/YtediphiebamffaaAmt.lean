/- Plain mathematics of amounts: exact division bit by bit, and the method of largest remainders. Natural numbers and lists alone. -/
namespace Go.Proofs.Ytediphiebamffaa

/-! ### Division bit by bit -/
/-- One step: the quotient and the remainder of twice what there was, and b more where the bit is 1. -/
def divBit (b n q r bit : Nat) : Nat × Nat :=
  let q1 := if n ≤ 2 * r then 2 * q + 1 else 2 * q
  let r1 := if n ≤ 2 * r then 2 * r - n else 2 * r
  if bit = 1 then (if n ≤ r1 + b % n then (q1 + b / n + 1, r1 + b % n - n) else (q1 + b / n, r1 + b % n)) else (q1, r1)
theorem divBit_spec (b n q r bit a : Nat) (hn : 1 ≤ n) (hr : r < n) (hb : bit ≤ 1) (h : q * n + r = a * b) :
    (divBit b n q r bit).1 * n + (divBit b n q r bit).2 = (2 * a + bit) * b ∧ (divBit b n q r bit).2 < n := by
  have hbn := Nat.div_add_mod b n
  have hbm : b % n < n := Nat.mod_lt _ hn
  have e1 : (2 * a + bit) * b = 2 * (a * b) + bit * b := by rw [Nat.add_mul, Nat.mul_assoc]
  have e2 : n * (b / n) = (b / n) * n := Nat.mul_comm _ _
  have e3 : 2 * q * n = 2 * (q * n) := Nat.mul_assoc _ _ _
  have e4 : (2 * q + 1) * n = 2 * (q * n) + n := by rw [Nat.add_mul, e3, Nat.one_mul]
  have e5 : (2 * q + 1 + b / n) * n = 2 * (q * n) + n + (b / n) * n := by rw [Nat.add_mul, e4]
  have e6 : (2 * q + b / n) * n = 2 * (q * n) + (b / n) * n := by rw [Nat.add_mul, e3]
  have e7 : (2 * q + 1 + b / n + 1) * n = 2 * (q * n) + n + (b / n) * n + n := by rw [Nat.add_mul, e5, Nat.one_mul]
  have e8 : (2 * q + b / n + 1) * n = 2 * (q * n) + (b / n) * n + n := by rw [Nat.add_mul, e6, Nat.one_mul]
  have hbit : bit = 0 ∨ bit = 1 := by omega
  unfold divBit
  dsimp only
  rcases hbit with rfl | rfl
  · rw [if_neg (by omega)]
    by_cases h1 : n ≤ 2 * r
    · rw [if_pos h1, if_pos h1]; dsimp only; rw [e1, e4]; omega
    · rw [if_neg h1, if_neg h1]; dsimp only; rw [e1, e3]; omega
  · rw [if_pos rfl]
    by_cases h1 : n ≤ 2 * r
    · rw [if_pos h1, if_pos h1]
      by_cases h2 : n ≤ 2 * r - n + b % n
      · rw [if_pos h2]; dsimp only; rw [e1, e7]; omega
      · rw [if_neg h2]; dsimp only; rw [e1, e5]; omega
    · rw [if_neg h1, if_neg h1]
      by_cases h2 : n ≤ 2 * r + b % n
      · rw [if_pos h2]; dsimp only; rw [e1, e8]; omega
      · rw [if_neg h2]; dsimp only; rw [e1, e6]; omega
theorem div_unique (q r n x : Nat) (hr : r < n) (h : q * n + r = x) : q = x / n ∧ r = x % n := by
  subst h
  refine ⟨?_, ?_⟩
  · rw [Nat.add_comm, Nat.mul_comm, Nat.add_mul_div_left _ _ (by omega), Nat.div_eq_of_lt hr, Nat.zero_add]
  · rw [Nat.add_comm, Nat.mul_comm, Nat.add_mul_mod_self_left, Nat.mod_eq_of_lt hr]
/-- What is left of a number above a bit gives at most the whole quotient. -/
theorem part_le (a b n i : Nat) : (a / 2 ^ i) * b / n ≤ a * b / n := Nat.div_le_div_right (Nat.mul_le_mul_right b (Nat.div_le_self _ _))

/-! ### Largest remainders -/
/-- j comes before i: a greater remainder, or the same and a smaller place. -/
def bef (r : Nat → Nat) (j i : Nat) : Bool := decide (r i < r j) || (decide (r i = r j) && decide (j < i))
theorem bef_iff (r : Nat → Nat) (j i : Nat) : bef r j i = true ↔ r i < r j ∨ (r i = r j ∧ j < i) := by
  unfold bef; simp
theorem bef_irrefl (r : Nat → Nat) (i : Nat) : bef r i i = false := by
  rw [Bool.eq_false_iff]; intro h; rw [bef_iff] at h; omega
theorem bef_trans (r : Nat → Nat) (i j k : Nat) (h : bef r i j = true) (h' : bef r j k = true) : bef r i k = true := by
  rw [bef_iff] at *; omega
theorem bef_total (r : Nat → Nat) (i j : Nat) (h : i ≠ j) : bef r i j = true ∨ bef r j i = true := by
  rw [bef_iff, bef_iff]; omega
/-- How many come before i. -/
def rank (r : Nat → Nat) (n i : Nat) : Nat := (List.range n).countP (fun j => bef r j i)
/-- A set of places, of which each comes before each place outside. -/
def Init (r : Nat → Nat) (n : Nat) (S : Nat → Bool) : Prop := ∀ i j, i < n → j < n → S i = true → S j = false → bef r i j = true
def size (n : Nat) (S : Nat → Bool) : Nat := (List.range n).countP S
theorem countP_strict (l : List Nat) (p q : Nat → Bool) (h : ∀ x ∈ l, p x = true → q x = true) (y : Nat) (hy : y ∈ l) (hp : p y = false) (hq : q y = true) : l.countP p < l.countP q := by
  induction l with
  | nil => simp at hy
  | cons x l ih =>
    have hm : l.countP p ≤ l.countP q := List.countP_mono_left fun z hz hpz => h z (by simp [hz]) hpz
    rw [List.countP_cons, List.countP_cons]
    rcases List.mem_cons.1 hy with e | e
    · subst e
      rw [hp, hq]; simp; omega
    · have := ih (fun z hz => h z (by simp [hz])) e
      by_cases hx : p x = true
      · rw [if_pos hx, if_pos (h x (by simp) hx)]; omega
      · rw [if_neg hx]; split <;> omega
theorem init_rank (r : Nat → Nat) (n : Nat) (S : Nat → Bool) (hS : Init r n S) (i : Nat) (hi : i < n) : S i = true ↔ rank r n i < size n S := by
  constructor
  · intro h
    refine countP_strict _ _ _ ?_ i (List.mem_range.2 hi) (bef_irrefl r i) h
    intro j hj hb
    by_cases hs : S j = true
    · exact hs
    · have h2 := hS i j hi (List.mem_range.1 hj) h (by simpa using hs)
      rw [bef_iff] at hb h2
      omega
  · intro h
    by_cases hs : S i = true
    · exact hs
    · exfalso
      have : size n S ≤ rank r n i := List.countP_mono_left fun j hj hs' => hS j i (List.mem_range.1 hj) hi hs' (by simpa using hs)
      omega
theorem size_rank (r : Nat → Nat) (n : Nat) (S : Nat → Bool) (hS : Init r n S) : size n (fun i => decide (rank r n i < size n S)) = size n S := by
  unfold size
  refine List.countP_congr fun i hi => ?_
  have := init_rank r n S hS i (List.mem_range.1 hi)
  simp only [decide_eq_true_iff]
  exact this.symm
theorem init_empty (r : Nat → Nat) (n : Nat) : Init r n (fun _ => false) := fun i j _ _ h _ => by cases h
theorem size_empty (n : Nat) : size n (fun _ => false) = 0 := by unfold size; exact List.countP_eq_zero.2 (by simp)
theorem size_le (n : Nat) (S : Nat → Bool) : size n S ≤ n := by
  have := List.countP_le_length (p := S) (l := List.range n)
  rwa [List.length_range] at this
/-- One more place: the one that comes before all others outside. -/
theorem init_add (r : Nat → Nat) (n : Nat) (S : Nat → Bool) (hS : Init r n S) (b : Nat) (hb : b < n) (hSb : S b = false) (hbest : ∀ j, j < n → S j = false → j ≠ b → bef r b j = true) :
    Init r n (fun i => S i || decide (i = b)) ∧ size n (fun i => S i || decide (i = b)) = size n S + 1 := by
  refine ⟨?_, ?_⟩
  · intro i j hi hj h1 h2
    simp only [Bool.or_eq_true, decide_eq_true_iff] at h1
    simp only [Bool.or_eq_false_iff, decide_eq_false_iff_not] at h2
    rcases h1 with h1 | h1
    · exact hS i j hi hj h1 h2.1
    · subst h1; exact hbest j hj h2.1 h2.2
  · unfold size
    have key : ∀ l : List Nat, l.Nodup → b ∈ l → l.countP (fun i => S i || decide (i = b)) = l.countP S + 1 := by
      intro l
      induction l with
      | nil => intro _ h; simp at h
      | cons x l ih =>
        intro hnd hm
        rw [List.countP_cons, List.countP_cons]
        rw [List.nodup_cons] at hnd
        by_cases hx : x = b
        · subst hx
          have h0 : l.countP (fun i => S i || decide (i = x)) = l.countP S := List.countP_congr fun i hi => by
            have hne : i ≠ x := fun e => hnd.1 (e ▸ hi)
            simp [hne]
          rw [h0, hSb]; simp
        · have hm2 : b ∈ l := by
            rcases List.mem_cons.1 hm with e | e
            · exact absurd e.symm hx
            · exact e
          rw [ih hnd.2 hm2]
          have : (S x || decide (x = b)) = S x := by simp [hx]
          rw [this]; omega
    exact key _ List.nodup_range (List.mem_range.2 hb)

/-- The parts. -/
def partOf (q r : Nat → Nat) (n k i : Nat) : Nat := q i + if rank r n i < k then 1 else 0

/-! ### Sums -/
def sumTo (f : Nat → Nat) : Nat → Nat
  | 0 => 0
  | n + 1 => sumTo f n + f n
theorem sumTo_add (f g : Nat → Nat) (n : Nat) : sumTo (fun i => f i + g i) n = sumTo f n + sumTo g n := by
  induction n with
  | zero => rfl
  | succ n ih => unfold sumTo; rw [ih]; omega
theorem sumTo_mul (f : Nat → Nat) (c n : Nat) : sumTo (fun i => c * f i) n = c * sumTo f n := by
  induction n with
  | zero => rfl
  | succ n ih => unfold sumTo; rw [ih, Nat.mul_add]
theorem sumTo_congr (f g : Nat → Nat) (n : Nat) (h : ∀ i, i < n → f i = g i) : sumTo f n = sumTo g n := by
  induction n with
  | zero => rfl
  | succ n ih => unfold sumTo; rw [ih (fun i hi => h i (by omega)), h n (by omega)]
theorem sumTo_le (f g : Nat → Nat) (n : Nat) (h : ∀ i, i < n → f i ≤ g i) : sumTo f n ≤ sumTo g n := by
  induction n with
  | zero => exact Nat.le_refl _
  | succ n ih => unfold sumTo; have := ih (fun i hi => h i (by omega)); have := h n (by omega); omega
theorem size_sum (P : Nat → Bool) (n : Nat) : size n P = sumTo (fun i => if P i then 1 else 0) n := by
  induction n with
  | zero => rfl
  | succ n ih =>
    unfold size at ih ⊢
    rw [List.range_succ, List.countP_append, ih, List.countP_cons, List.countP_nil, Nat.zero_add]
    rfl
/-- The parts of a whole: quotas and remainders of total over the sum of the weights. -/
def quo (T W : Nat) (w : Nat → Nat) (i : Nat) : Nat := T * w i / W
def rem (T W : Nat) (w : Nat → Nat) (i : Nat) : Nat := T * w i % W
theorem quo_rem (T : Nat) (w : Nat → Nat) (n : Nat) : (sumTo w n) * sumTo (quo T (sumTo w n) w) n + sumTo (rem T (sumTo w n) w) n = T * sumTo w n := by
  rw [← sumTo_mul, ← sumTo_add, ← sumTo_mul]
  exact sumTo_congr _ _ _ fun i _ => Nat.div_add_mod _ _
theorem quo_le (T : Nat) (w : Nat → Nat) (n : Nat) (hW : 1 ≤ sumTo w n) : sumTo (quo T (sumTo w n) w) n ≤ T := by
  have h := quo_rem T w n
  have h2 : sumTo w n * sumTo (quo T (sumTo w n) w) n ≤ sumTo w n * T := by rw [Nat.mul_comm _ T]; omega
  exact Nat.le_of_mul_le_mul_left h2 (by omega)
/-- What is left to be dealt out. -/
def left3 (T : Nat) (w : Nat → Nat) (n : Nat) : Nat := T - sumTo (quo T (sumTo w n) w) n
theorem rem_sum (T : Nat) (w : Nat → Nat) (n : Nat) (hW : 1 ≤ sumTo w n) : sumTo (rem T (sumTo w n) w) n = sumTo w n * left3 T w n := by
  have h := quo_rem T w n
  have h2 := quo_le T w n hW
  have h3 : sumTo w n * left3 T w n + sumTo w n * sumTo (quo T (sumTo w n) w) n = sumTo w n * T := by
    rw [← Nat.mul_add]; congr 1; unfold left3; omega
  rw [Nat.mul_comm T] at h
  omega
/-- Whoever is dealt one has a remainder. -/
theorem init_pos (r : Nat → Nat) (n W : Nat) (S : Nat → Bool) (hS : Init r n S) (hr : ∀ i, i < n → r i < W) (hsum : sumTo r n = W * size n S) (i : Nat) (hi : i < n) (hSi : S i = true) : 0 < r i := by
  rcases Nat.eq_zero_or_pos (r i) with h0 | h0
  · exfalso
    have hout : ∀ j, j < n → S j = false → r j = 0 := fun j hj hs => by
      have := hS i j hi hj hSi hs
      rw [bef_iff] at this
      omega
    -- each remainder is at most (W - 1) within S, and i's is 0
    have hle : sumTo r n ≤ sumTo (fun j => (W - 1) * (if S j then 1 else 0)) n := sumTo_le _ _ _ fun j hj => by
      by_cases hs : S j = true
      · rw [if_pos hs, Nat.mul_one]; have := hr j hj; omega
      · rw [hout j hj (by simpa using hs)]; exact Nat.zero_le _
    rw [sumTo_mul, ← size_sum, hsum] at hle
    have hpos : 1 ≤ size n S := by
      unfold size
      exact List.countP_pos_iff.2 ⟨i, List.mem_range.2 hi, hSi⟩
    have hWp : 1 ≤ W := by have := hr i hi; omega
    have : W * size n S = (W - 1) * size n S + size n S := by
      conv => lhs; rw [show W = (W - 1) + 1 by omega, Nat.add_mul, Nat.one_mul]
    omega
  · exact h0
theorem sumTo_const (W m : Nat) : sumTo (fun _ => W) m = W * m := by
  induction m with
  | zero => rfl
  | succ m ih => unfold sumTo; rw [ih, Nat.mul_succ]
theorem size_of_sum (r : Nat → Nat) (n W k : Nat) (hW : 1 ≤ W) (hr : ∀ i, i < n → r i < W) (hsum : sumTo r n = W * k) : k ≤ n := by
  have h1 : sumTo r n ≤ sumTo (fun _ => W) n := sumTo_le _ _ _ fun i hi => Nat.le_of_lt (hr i hi)
  rw [sumTo_const, hsum] at h1
  exact Nat.le_of_mul_le_mul_left h1 (by omega)

/-! ### What the method promises: for any set of places that is dealt one each -/
section
variable (T : Nat) (w : Nat → Nat) (n : Nat) (S : Nat → Bool)
/-- The part of a place. -/
def part3 (i : Nat) : Nat := quo T (sumTo w n) w i + if S i then 1 else 0
theorem parts_sum (hW : 1 ≤ sumTo w n) (hs : size n S = left3 T w n) : sumTo (part3 T w n S) n = T := by
  have h := quo_le T w n hW
  unfold part3
  rw [sumTo_add, ← size_sum, hs]
  unfold left3
  omega
theorem part_pos (hW : 1 ≤ sumTo w n) (hS : Init (rem T (sumTo w n) w) n S) (hs : size n S = left3 T w n) (i : Nat) (hi : i < n) (hSi : S i = true) : 0 < rem T (sumTo w n) w i :=
  init_pos _ n (sumTo w n) S hS (fun _ _ => Nat.mod_lt _ (by omega)) (by rw [hs]; exact rem_sum T w n hW) i hi hSi
theorem part_zero (hW : 1 ≤ sumTo w n) (hS : Init (rem T (sumTo w n) w) n S) (hs : size n S = left3 T w n) (i : Nat) (hi : i < n) (h0 : w i = 0) : part3 T w n S i = 0 := by
  have hr : rem T (sumTo w n) w i = 0 := by unfold rem; rw [h0, Nat.mul_zero, Nat.zero_mod]
  have hq : quo T (sumTo w n) w i = 0 := by unfold quo; rw [h0, Nat.mul_zero, Nat.zero_div]
  have hSi : S i = false := by
    rw [Bool.eq_false_iff]
    intro h
    have := part_pos T w n S hW hS hs i hi h
    omega
  unfold part3
  rw [hq, hSi]; rfl
/-- A greater weight has no smaller part. -/
theorem part_mono (hS : Init (rem T (sumTo w n) w) n S) (hs : size n S = left3 T w n) (i j : Nat) (hi : i < n) (hj : j < n) (h : w j < w i) : part3 T w n S j ≤ part3 T w n S i := by
  have hm : T * w j ≤ T * w i := Nat.mul_le_mul_left _ (Nat.le_of_lt h)
  have hq : quo T (sumTo w n) w j ≤ quo T (sumTo w n) w i := Nat.div_le_div_right hm
  unfold part3
  by_cases he : quo T (sumTo w n) w j = quo T (sumTo w n) w i
  · by_cases hSj : S j = true
    · by_cases hSi : S i = true
      · rw [if_pos hSj, if_pos hSi]; omega
      · exfalso
        have hb := hS j i hj hi hSj (by simpa using hSi)
        rw [bef_iff] at hb
        have d1 := Nat.div_add_mod (T * w i) (sumTo w n)
        have d2 := Nat.div_add_mod (T * w j) (sumTo w n)
        unfold quo at he
        unfold rem at hb
        rw [he] at d2
        have hle : T * w j % sumTo w n ≤ T * w i % sumTo w n := by omega
        have heq : T * w j = T * w i := by omega
        by_cases hT : T = 0
        · have hl : left3 T w n = 0 := by unfold left3; omega
          have hp : 0 < size n S := by
            unfold size
            exact List.countP_pos_iff.2 ⟨j, List.mem_range.2 hj, hSj⟩
          omega
        · have := Nat.eq_of_mul_eq_mul_left (by omega) heq
          omega
    · rw [if_neg hSj]; omega
  · split <;> split <;> omega
/-- The set that is dealt one each is the only one. -/
theorem part_rank (hS : Init (rem T (sumTo w n) w) n S) (hs : size n S = left3 T w n) (i : Nat) (hi : i < n) :
    part3 T w n S i = partOf (quo T (sumTo w n) w) (rem T (sumTo w n) w) n (left3 T w n) i := by
  have h := init_rank _ n S hS i hi
  rw [hs] at h
  unfold part3 partOf
  by_cases hSi : S i = true
  · rw [if_pos hSi, if_pos (h.1 hSi)]
  · rw [if_neg hSi, if_neg (fun hr => hSi (h.2 hr))]
/-- Of equal weights the earlier one has the same part, or one more. -/
theorem part_equal (hS : Init (rem T (sumTo w n) w) n S) (i j : Nat) (hi : i < n) (hj : j < n) (hji : j < i) (h : w i = w j) : part3 T w n S j = part3 T w n S i ∨ part3 T w n S j = part3 T w n S i + 1 := by
  unfold part3
  have hq : quo T (sumTo w n) w i = quo T (sumTo w n) w j := by unfold quo; rw [h]
  have hr : rem T (sumTo w n) w i = rem T (sumTo w n) w j := by unfold rem; rw [h]
  by_cases hSi : S i = true
  · by_cases hSj : S j = true
    · rw [if_pos hSj, if_pos hSi, hq]; omega
    · exfalso
      have hb := hS i j hi hj hSi (by simpa using hSj)
      rw [bef_iff] at hb
      omega
  · rw [if_neg hSi, hq]; split <;> omega
end
theorem sumTo_scaled (w : Nat → Nat) (c n : Nat) : sumTo (fun i => c * w i) n = c * sumTo w n := sumTo_mul w c n
theorem quo_scaled (T W c : Nat) (w : Nat → Nat) (hc : 1 ≤ c) (i : Nat) : quo T (c * W) (fun i => c * w i) i = quo T W w i := by
  unfold quo
  rw [← Nat.mul_assoc, Nat.mul_comm T c, Nat.mul_assoc]
  exact Nat.mul_div_mul_left _ _ (by omega)
theorem rem_scaled (T W c : Nat) (w : Nat → Nat) (i : Nat) : rem T (c * W) (fun i => c * w i) i = c * rem T W w i := by
  unfold rem
  rw [← Nat.mul_assoc, Nat.mul_comm T c, Nat.mul_assoc, Nat.mul_mod_mul_left]
theorem bef_scaled (r : Nat → Nat) (c : Nat) (hc : 1 ≤ c) (j i : Nat) : bef (fun i => c * r i) j i = bef r j i := by
  rw [Bool.eq_iff_iff, bef_iff, bef_iff]
  constructor
  · rintro (h | ⟨h, h2⟩)
    · exact Or.inl (Nat.lt_of_mul_lt_mul_left h)
    · exact Or.inr ⟨Nat.eq_of_mul_eq_mul_left (by omega) h, h2⟩
  · rintro (h | ⟨h, h2⟩)
    · exact Or.inl (Nat.mul_lt_mul_of_pos_left h (by omega))
    · exact Or.inr ⟨by rw [h], h2⟩
theorem rank_congr (r r' : Nat → Nat) (n i : Nat) (h : ∀ j, bef r j i = bef r' j i) : rank r n i = rank r' n i := by
  unfold rank
  exact List.countP_congr fun j _ => by rw [h j]
/-- Multiplying all weights changes no part. -/
theorem partOf_scaled (T c n : Nat) (w : Nat → Nat) (hc : 1 ≤ c) (i : Nat) :
    partOf (quo T (sumTo (fun i => c * w i) n) (fun i => c * w i)) (rem T (sumTo (fun i => c * w i) n) (fun i => c * w i)) n (left3 T (fun i => c * w i) n) i =
      partOf (quo T (sumTo w n) w) (rem T (sumTo w n) w) n (left3 T w n) i := by
  have hq : ∀ i, quo T (sumTo (fun i => c * w i) n) (fun i => c * w i) i = quo T (sumTo w n) w i := fun i => by rw [sumTo_scaled]; exact quo_scaled T _ c w hc i
  have hr : rank (rem T (sumTo (fun i => c * w i) n) (fun i => c * w i)) n i = rank (rem T (sumTo w n) w) n i := rank_congr _ _ n i fun j => by
    rw [← bef_scaled (rem T (sumTo w n) w) c hc j i]
    have e : ∀ k, rem T (sumTo (fun i => c * w i) n) (fun i => c * w i) k = c * rem T (sumTo w n) w k := fun k => by rw [sumTo_scaled]; exact rem_scaled T _ c w k
    rw [Bool.eq_iff_iff, bef_iff, bef_iff, e, e]
  have hl : left3 T (fun i => c * w i) n = left3 T w n := by
    unfold left3
    rw [sumTo_congr _ _ n fun i _ => hq i]
  unfold partOf
  rw [hq, hr, hl]

/-! ### There is such a set, for each size -/
theorem best_of (r : Nat → Nat) (S : Nat → Bool) (n : Nat) : (∀ i, i < n → S i = true) ∨ ∃ b, b < n ∧ S b = false ∧ ∀ j, j < n → S j = false → j ≠ b → bef r b j = true := by
  induction n with
  | zero => exact Or.inl fun i hi => absurd hi (by omega)
  | succ n ih =>
    by_cases hs : S n = true
    · rcases ih with h | ⟨b, h1, h2, h3⟩
      · exact Or.inl fun i hi => by
          by_cases e : i = n
          · rw [e]; exact hs
          · exact h i (by omega)
      · refine Or.inr ⟨b, by omega, h2, fun j hj hSj hne => ?_⟩
        by_cases e : j = n
        · rw [e, hs] at hSj; cases hSj
        · exact h3 j (by omega) hSj hne
    · have hs' : S n = false := by simpa using hs
      rcases ih with h | ⟨b, h1, h2, h3⟩
      · refine Or.inr ⟨n, by omega, hs', fun j hj hSj hne => ?_⟩
        have := h j (by omega)
        rw [hSj] at this; cases this
      · rcases bef_total r b n (by omega) with hb | hb
        · refine Or.inr ⟨b, by omega, h2, fun j hj hSj hne => ?_⟩
          by_cases e : j = n
          · rw [e]; exact hb
          · exact h3 j (by omega) hSj hne
        · refine Or.inr ⟨n, by omega, hs', fun j hj hSj hne => ?_⟩
          by_cases e : j = b
          · rw [e]; exact hb
          · exact bef_trans r n b j hb (h3 j (by omega) hSj e)
theorem size_all (S : Nat → Bool) (n : Nat) (h : ∀ i, i < n → S i = true) : size n S = n := by
  rw [size_sum, sumTo_congr _ (fun _ => 1) n (fun i hi => by rw [if_pos (h i hi)]), sumTo_const, Nat.one_mul]
theorem exists_init (r : Nat → Nat) (n k : Nat) (hk : k ≤ n) : ∃ S, Init r n S ∧ size n S = k := by
  induction k with
  | zero => exact ⟨_, init_empty r n, size_empty n⟩
  | succ k ih =>
    obtain ⟨S, h1, h2⟩ := ih (by omega)
    rcases best_of r S n with h | ⟨b, hb, hSb, hbest⟩
    · rw [size_all S n h] at h2; omega
    · have := init_add r n S h1 b hb hSb hbest
      exact ⟨_, this.1, by rw [this.2, h2]⟩
theorem left3_le (T : Nat) (w : Nat → Nat) (n : Nat) (hW : 1 ≤ sumTo w n) : left3 T w n ≤ n :=
  size_of_sum _ n (sumTo w n) _ hW (fun _ _ => Nat.mod_lt _ (by omega)) (rem_sum T w n hW)
/-- Whoever has no remainder is dealt none. -/
theorem rank_zero (T : Nat) (w : Nat → Nat) (n i : Nat) (hW : 1 ≤ sumTo w n) (hi : i < n) (h0 : rem T (sumTo w n) w i = 0) : ¬ rank (rem T (sumTo w n) w) n i < left3 T w n := by
  intro h
  obtain ⟨S, h1, h2⟩ := exists_init (rem T (sumTo w n) w) n (left3 T w n) (left3_le T w n hW)
  have hSi := (init_rank _ n S h1 i hi).2 (by rw [h2]; exact h)
  have := part_pos T w n S hW h1 h2 i hi hSi
  omega

/-! ### A weight of 0 more -/
def sh (a i : Nat) : Nat := if i < a then i else i + 1
theorem sh_lt (a i j : Nat) : sh a i < sh a j ↔ i < j := by unfold sh; split <;> split <;> omega
theorem sh_ne (a i : Nat) : sh a i ≠ a := by unfold sh; split <;> omega
theorem sumTo_ins (F : Nat → Nat) (a n : Nat) (ha : a ≤ n) : sumTo F (n + 1) = sumTo (fun j => F (sh a j)) n + F a := by
  induction n with
  | zero =>
    have : a = 0 := by omega
    subst this
    rfl
  | succ n ih =>
    by_cases e : a = n + 1
    · subst e
      show sumTo F (n + 1) + F (n + 1) = _
      rw [sumTo_congr F (fun j => F (sh (n + 1) j)) (n + 1) fun i hi => by unfold sh; rw [if_pos hi]]
    · show sumTo F (n + 1) + F (n + 1) = (sumTo (fun j => F (sh a j)) n + F (sh a n)) + F a
      rw [ih (by omega), show sh a n = n + 1 by unfold sh; rw [if_neg (by omega)]]
      omega
/-- w' is w with a weight of 0 more, before place a. -/
structure Ins0 (w w' : Nat → Nat) (a : Nat) : Prop where
  at_ : w' a = 0
  sh_ : ∀ i, w' (sh a i) = w i
theorem ins_sum {w w' : Nat → Nat} {a : Nat} (h : Ins0 w w' a) (n : Nat) (ha : a ≤ n) : sumTo w' (n + 1) = sumTo w n := by
  rw [sumTo_ins w' a n ha, h.at_, Nat.add_zero]
  exact sumTo_congr _ _ n fun i _ => h.sh_ i
theorem ins_quo {w w' : Nat → Nat} {a : Nat} (h : Ins0 w w' a) (T W i : Nat) : quo T W w' (sh a i) = quo T W w i := by unfold quo; rw [h.sh_]
theorem ins_rem {w w' : Nat → Nat} {a : Nat} (h : Ins0 w w' a) (T W i : Nat) : rem T W w' (sh a i) = rem T W w i := by unfold rem; rw [h.sh_]
theorem ins_left {w w' : Nat → Nat} {a : Nat} (h : Ins0 w w' a) (T n : Nat) (ha : a ≤ n) : left3 T w' (n + 1) = left3 T w n := by
  unfold left3
  rw [ins_sum h n ha, sumTo_ins _ a n ha, show quo T (sumTo w n) w' a = 0 by unfold quo; rw [h.at_, Nat.mul_zero, Nat.zero_div], Nat.add_zero]
  rw [sumTo_congr _ _ n fun i _ => ins_quo h T (sumTo w n) i]
theorem ins_rank {w w' : Nat → Nat} {a : Nat} (h : Ins0 w w' a) (T W n i : Nat) (ha : a ≤ n) :
    rank (rem T W w') (n + 1) (sh a i) = rank (rem T W w) n i + if bef (rem T W w') a (sh a i) then 1 else 0 := by
  unfold rank
  have e1 := size_sum (fun j => bef (rem T W w') j (sh a i)) (n + 1)
  have e2 := size_sum (fun j => bef (rem T W w) j i) n
  unfold size at e1 e2
  rw [e1, e2, sumTo_ins _ a n ha]
  congr 1
  refine sumTo_congr _ _ n fun j _ => ?_
  have : bef (rem T W w') (sh a j) (sh a i) = bef (rem T W w) j i := by
    rw [Bool.eq_iff_iff, bef_iff, bef_iff, ins_rem h, ins_rem h, sh_lt]
  rw [this]
/-- No other part changes, and the new one is 0. -/
theorem ins_part {w w' : Nat → Nat} {a : Nat} (h : Ins0 w w' a) (T n i : Nat) (ha : a ≤ n) (hi : i < n) (hW : 1 ≤ sumTo w n) :
    partOf (quo T (sumTo w' (n + 1)) w') (rem T (sumTo w' (n + 1)) w') (n + 1) (left3 T w' (n + 1)) (sh a i) = partOf (quo T (sumTo w n) w) (rem T (sumTo w n) w) n (left3 T w n) i := by
  rw [ins_sum h n ha, ins_left h T n ha]
  unfold partOf
  rw [ins_quo h, ins_rank h T _ n i ha]
  have h0 : rem T (sumTo w n) w' a = 0 := by unfold rem; rw [h.at_, Nat.mul_zero, Nat.zero_mod]
  by_cases hr : rem T (sumTo w n) w i = 0
  · have := rank_zero T w n i hW hi hr
    rw [if_neg this, if_neg (by omega)]
  · have hb : bef (rem T (sumTo w n) w') a (sh a i) = false := by
      rw [Bool.eq_false_iff]
      intro hb
      rw [bef_iff, ins_rem h, h0] at hb
      omega
    rw [hb]
    rfl
theorem ins_new {w w' : Nat → Nat} {a : Nat} (h : Ins0 w w' a) (T n : Nat) (ha : a ≤ n) (hW : 1 ≤ sumTo w n) :
    partOf (quo T (sumTo w' (n + 1)) w') (rem T (sumTo w' (n + 1)) w') (n + 1) (left3 T w' (n + 1)) a = 0 := by
  have hs := ins_sum h n ha
  have hr := rank_zero T w' (n + 1) a (by rw [hs]; exact hW) (by omega) (by unfold rem; rw [h.at_, Nat.mul_zero, Nat.zero_mod])
  unfold partOf
  rw [if_neg hr, show quo T (sumTo w' (n + 1)) w' a = 0 by unfold quo; rw [h.at_, Nat.mul_zero, Nat.zero_div]]
end Go.Proofs.Ytediphiebamffaa
