/- Plain mathematics of calendar months: days, first seconds, the period of a second. Natural numbers and lists alone. -/
namespace Go.Proofs.YtmmlneghhjjciaaDoor

/-- The lengths of the months. -/
def tblN (m : Nat) : Nat := [31, 28, 31, 30, 31, 30, 31, 31, 30, 31, 30, 31].getD m 0
def daysN (p : Nat) : Nat := if p % 12 = 1 ∧ p / 12 % 4 = 0 then 29 else tblN (p % 12)
/-- Days up to a period. -/
def upN : Nat → Nat
  | 0 => 0
  | p + 1 => upN p + daysN p
theorem tblN_bd : ∀ m, m < 12 → 28 ≤ tblN m ∧ tblN m ≤ 31 := by decide
theorem daysN_bd (p : Nat) : 28 ≤ daysN p ∧ daysN p ≤ 31 := by
  unfold daysN
  split
  · omega
  · exact tblN_bd _ (Nat.mod_lt _ (by omega))
theorem daysN_mod (p : Nat) : daysN (p % 48) = daysN p := by
  have h1 : p % 48 % 12 = p % 12 := by omega
  have h2 : p % 48 / 12 % 4 = p / 12 % 4 := by omega
  unfold daysN
  rw [h1, h2]
theorem daysN_add48 (p : Nat) : daysN (p + 48) = daysN p := by
  rw [← daysN_mod (p + 48), ← daysN_mod p]; congr 1; omega
/-- The sum of k months from p on. -/
def sumD (p : Nat) : Nat → Nat
  | 0 => 0
  | k + 1 => sumD p k + daysN (p + k)
theorem upN_add (p k : Nat) : upN (p + k) = upN p + sumD p k := by
  induction k with
  | zero => rfl
  | succ k ih => show upN (p + k) + daysN (p + k) = upN p + (sumD p k + daysN (p + k)); omega
theorem sumD_mod (p k : Nat) : sumD (p % 48) k = sumD p k := by
  induction k with
  | zero => rfl
  | succ k ih =>
    show sumD (p % 48) k + daysN (p % 48 + k) = sumD p k + daysN (p + k)
    rw [ih, ← daysN_mod (p % 48 + k), ← daysN_mod (p + k)]
    congr 2; omega
theorem year_lt : ∀ r, r < 48 → sumD r 12 = 365 ∨ sumD r 12 = 366 := by decide +kernel
theorem four_lt : ∀ r, r < 48 → sumD r 48 = 1461 := by decide +kernel
theorem year (p : Nat) : sumD p 12 = 365 ∨ sumD p 12 = 366 := by
  have := year_lt (p % 48) (Nat.mod_lt _ (by omega))
  rwa [sumD_mod] at this
theorem four (p : Nat) : sumD p 48 = 1461 := by
  have := four_lt (p % 48) (Nat.mod_lt _ (by omega))
  rwa [sumD_mod] at this
theorem upN_1200 : upN 1200 = 36525 := by
  have key : ∀ k, upN (48 * k) = 1461 * k := by
    intro k
    induction k with
    | zero => rfl
    | succ k ih => rw [Nat.mul_succ, upN_add, ih, four]; omega
  exact key 25
theorem upN_mono (p q : Nat) (h : p ≤ q) : upN p ≤ upN q := by
  obtain ⟨k, rfl⟩ := Nat.exists_eq_add_of_le h
  rw [upN_add]; omega
theorem upN_strict (p q : Nat) (h : p < q) : upN p < upN q := by
  have h1 := upN_mono (p + 1) q h
  have h2 : upN (p + 1) = upN p + daysN p := rfl
  have h3 := daysN_bd p
  omega
theorem upN_le (p : Nat) (h : p ≤ 1200) : upN p ≤ 36525 := by
  rw [← upN_1200]; exact upN_mono p 1200 h
/-- The period of a day: the first one from p on with fewer than k of them before its end. -/
def perF : Nat → Nat → Nat → Nat × Nat
  | 0, p, d => (p, d)
  | k + 1, p, d => if daysN p ≤ d then perF k (p + 1) (d - daysN p) else (p, d)
theorem perF_spec (k p d : Nat) (h : d < sumD p k) : upN (perF k p d).1 + (perF k p d).2 = upN p + d ∧ (perF k p d).2 < daysN (perF k p d).1 := by
  induction k generalizing p d with
  | zero => exact absurd h (Nat.not_lt_zero _)
  | succ k ih =>
    have e1 : sumD p (k + 1) = daysN p + sumD (p + 1) k := by
      have a1 := upN_add p (k + 1)
      have a2 := upN_add (p + 1) k
      have a3 : upN (p + 1) = upN p + daysN p := rfl
      rw [show p + 1 + k = p + (k + 1) by omega] at a2
      omega
    unfold perF
    by_cases hd : daysN p ≤ d
    · rw [if_pos hd]
      have := ih (p + 1) (d - daysN p) (by omega)
      have a3 : upN (p + 1) = upN p + daysN p := rfl
      omega
    · rw [if_neg hd]
      exact ⟨rfl, by show d < daysN p; omega⟩
/-- The period of a day (of less than 36525), and which day of it. -/
def perN (d : Nat) : Nat := (perF 1200 0 d).1
def dayN (d : Nat) : Nat := (perF 1200 0 d).2
theorem sumD_1200 : sumD 0 1200 = 36525 := by
  have := upN_add 0 1200
  rw [Nat.zero_add, upN_1200] at this
  have h0 : upN 0 = 0 := rfl
  omega
theorem perN_spec (d : Nat) (h : d < 36525) : upN (perN d) + dayN d = d ∧ dayN d < daysN (perN d) := by
  have := perF_spec 1200 0 d (by rw [sumD_1200]; exact h)
  have h0 : upN 0 = 0 := rfl
  unfold perN dayN
  omega
theorem perN_lt (d : Nat) (h : d < 36525) : perN d < 1200 := by
  have h1 := (perN_spec d h).1
  by_cases h2 : perN d < 1200
  · exact h2
  · have := upN_mono 1200 (perN d) (by omega)
    rw [upN_1200] at this
    omega
/-- It is the only one. -/
theorem perN_unique (d p e : Nat) (h : d < 36525) (h1 : upN p + e = d) (h2 : e < daysN p) : p = perN d ∧ e = dayN d := by
  have ⟨g1, g2⟩ := perN_spec d h
  have a1 : upN (p + 1) = upN p + daysN p := rfl
  have a2 : upN (perN d + 1) = upN (perN d) + daysN (perN d) := rfl
  have hp : p = perN d := by
    rcases Nat.lt_trichotomy p (perN d) with h3 | h3 | h3
    · have := upN_mono (p + 1) (perN d) h3; omega
    · exact h3
    · have := upN_mono (perN d + 1) p h3; omega
  subst hp
  exact ⟨rfl, by omega⟩
theorem perN_mono (d e : Nat) (h : d ≤ e) (he : e < 36525) : perN d < perN e ∨ (perN d = perN e ∧ dayN d ≤ dayN e) := by
  have ⟨g1, g2⟩ := perN_spec d (by omega)
  have ⟨g3, g4⟩ := perN_spec e he
  have a1 : upN (perN e + 1) = upN (perN e) + daysN (perN e) := rfl
  rcases Nat.lt_trichotomy (perN d) (perN e) with h3 | h3 | h3
  · exact Or.inl h3
  · right; refine ⟨h3, ?_⟩; rw [h3] at g1; omega
  · have := upN_mono (perN e + 1) (perN d) h3; omega
/-- What is left of a day's number behind i months. -/
def leftN (d i : Nat) : Nat := d - upN i
theorem left_step (d i : Nat) (h : d < 36525) (hi : i ≤ perN d) : (daysN i ≤ leftN d i ↔ i < perN d) ∧ upN i ≤ d := by
  have ⟨g1, g2⟩ := perN_spec d h
  have a1 : upN (i + 1) = upN i + daysN i := rfl
  have m1 := upN_mono i (perN d) hi
  unfold leftN
  refine ⟨⟨fun h1 => ?_, fun h1 => ?_⟩, by omega⟩
  · rcases Nat.lt_or_ge i (perN d) with h2 | h2
    · exact h2
    · have : i = perN d := by omega
      subst this
      omega
  · have := upN_mono (i + 1) (perN d) h1; omega

/-! ### Periods as strings -/
def fmtN (p : Nat) : List UInt8 :=
  [UInt8.ofNat (48 + (2000 + p / 12) / 1000), UInt8.ofNat (48 + (2000 + p / 12) / 100 % 10), UInt8.ofNat (48 + (2000 + p / 12) / 10 % 10), UInt8.ofNat (48 + (2000 + p / 12) % 10), 45,
    UInt8.ofNat (48 + (1 + p % 12) / 10), UInt8.ofNat (48 + (1 + p % 12) % 10)]
theorem fmtN_length (p : Nat) : (fmtN p).length = 7 := rfl
/-- Which of two lists of bytes comes first. -/
def ltB : List UInt8 → List UInt8 → Bool
  | [], [] => false
  | [], _ :: _ => true
  | _ :: _, [] => false
  | a :: x, b :: y => decide (a.toNat < b.toNat) || (decide (a.toNat = b.toNat) && ltB x y)
theorem ltB_trans (x y z : List UInt8) (h : ltB x y = true) (h' : ltB y z = true) : ltB x z = true := by
  induction x generalizing y z with
  | nil =>
    cases y with
    | nil => cases h
    | cons b y => cases z with
      | nil => cases h'
      | cons c z => rfl
  | cons a x ih =>
    cases y with
    | nil => cases h
    | cons b y =>
      cases z with
      | nil => cases h'
      | cons c z =>
        unfold ltB at h h' ⊢
        simp only [Bool.or_eq_true, Bool.and_eq_true, decide_eq_true_iff] at h h' ⊢
        rcases h with h | ⟨h, h2⟩ <;> rcases h' with h' | ⟨h', h2'⟩
        · left; omega
        · left; omega
        · left; omega
        · right; exact ⟨by omega, ih y z h2 h2'⟩
theorem ltB_irrefl (x : List UInt8) : ltB x x = false := by
  induction x with
  | nil => rfl
  | cons a x ih => unfold ltB; rw [ih]; simp
theorem fmt_next : ∀ p, p < 1199 → ltB (fmtN p) (fmtN (p + 1)) = true := by decide +kernel
theorem fmt_lt (p q : Nat) (h : p < q) (hq : q < 1200) : ltB (fmtN p) (fmtN q) = true := by
  induction q with
  | zero => omega
  | succ q ih =>
    by_cases e : p = q
    · subst e; exact fmt_next p (by omega)
    · exact ltB_trans _ _ _ (ih (by omega) (by omega)) (fmt_next q (by omega))
theorem fmt_iff (p q : Nat) (hp : p < 1200) (hq : q < 1200) : ltB (fmtN p) (fmtN q) = decide (p < q) := by
  by_cases h : p < q
  · rw [fmt_lt p q h hq, decide_eq_true h]
  · rw [decide_eq_false h]
    by_cases e : p = q
    · subst e; exact ltB_irrefl _
    · have := fmt_lt q p (by omega) hp
      rw [Bool.eq_false_iff]
      intro h2
      have h3 := ltB_trans _ _ _ h2 this
      rw [ltB_irrefl] at h3
      cases h3
theorem fmt_inj (p q : Nat) (hp : p < 1200) (hq : q < 1200) (h : fmtN p = fmtN q) : p = q := by
  rcases Nat.lt_trichotomy p q with h1 | h1 | h1
  · have := fmt_lt p q h1 hq; rw [h, ltB_irrefl] at this; cases this
  · exact h1
  · have := fmt_lt q p h1 hp; rw [h, ltB_irrefl] at this; cases this
/-- The period of a string, if there is one. -/
def parN (s : List UInt8) : Option Nat := (List.range 1200).find? fun p => decide (fmtN p = s)
theorem parN_some (s : List UInt8) (p : Nat) (h : parN s = some p) : p < 1200 ∧ fmtN p = s := by
  unfold parN at h
  have h1 := List.find?_some h
  have h2 := List.mem_of_find?_eq_some h
  exact ⟨List.mem_range.1 h2, of_decide_eq_true h1⟩
theorem parN_none (s : List UInt8) (h : parN s = none) (p : Nat) (hp : p < 1200) : fmtN p ≠ s := by
  unfold parN at h
  have := List.find?_eq_none.1 h p (List.mem_range.2 hp)
  simpa using this
theorem parN_fmt (p : Nat) (hp : p < 1200) : parN (fmtN p) = some p := by
  cases h : parN (fmtN p) with
  | none => exact absurd rfl (parN_none _ h p hp)
  | some q =>
    have ⟨h1, h2⟩ := parN_some _ _ h
    rw [fmt_inj q p h1 hp h2]
/-- The first k periods do not answer. -/
theorem parN_first (s : List UInt8) (k : Nat) (hk : k < 1200) (hs : fmtN k = s) : parN s = some k := by rw [← hs]; exact parN_fmt k hk
theorem parN_never (s : List UInt8) (h : ∀ p, p < 1200 → fmtN p ≠ s) : parN s = none := by
  cases hp : parN s with
  | none => rfl
  | some q => have ⟨h1, h2⟩ := parN_some _ _ hp; exact absurd h2 (h q h1)
end Go.Proofs.YtmmlneghhjjciaaDoor
