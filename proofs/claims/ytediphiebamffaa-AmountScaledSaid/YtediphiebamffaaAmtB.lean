/- More plain mathematics of amounts: shares of a whole, sums that refuse. -/
import Derived.Test.YtediphiebamffaaAmt
namespace Go.Proofs.Ytediphiebamffaa

/-- The quotients of two numbers add up to the quotient of their sum, or to one less. -/
theorem div_pair (x y n : Nat) (hn : 1 ≤ n) : x / n + y / n = (x + y) / n ∨ x / n + y / n + 1 = (x + y) / n := by
  have d1 := Nat.div_add_mod x n
  have d2 := Nat.div_add_mod y n
  have m1 : x % n < n := Nat.mod_lt _ hn
  have m2 : y % n < n := Nat.mod_lt _ hn
  have e : x + y = n * (x / n + y / n) + (x % n + y % n) := by rw [Nat.mul_add]; omega
  have e2 : (x + y) / n = (x / n + y / n) + (x % n + y % n) / n := by
    conv => lhs; rw [e]
    rw [Nat.mul_add_div hn]
  have h : (x % n + y % n) / n < 2 := by
    rw [Nat.div_lt_iff_lt_mul hn]; omega
  obtain ⟨g, hg⟩ : ∃ g, (x % n + y % n) / n = g := ⟨_, rfl⟩
  rw [hg] at e2 h
  omega
theorem share_pair (T s W : Nat) (hW : 1 ≤ W) (hs : s ≤ W) : T * s / W + T * (W - s) / W = T ∨ T * s / W + T * (W - s) / W + 1 = T := by
  have h := div_pair (T * s) (T * (W - s)) W hW
  rw [← Nat.mul_add, show s + (W - s) = W by omega, Nat.mul_div_cancel _ (by omega)] at h
  exact h
theorem share_mono (T T' s s' W : Nat) (h1 : T ≤ T') (h2 : s ≤ s') : T * s / W ≤ T' * s' / W := Nat.div_le_div_right (Nat.mul_le_mul h1 h2)

/-- A sum that refuses: a negative number, or more than the limit. -/
def sumF (M : Nat) : List Int → Nat → Option Nat
  | [], s => some s
  | x :: l, s => if 0 ≤ x ∧ s + x.toNat ≤ M then sumF M l (s + x.toNat) else none
theorem sumF_append (M : Nat) (a b : List Int) (s : Nat) : sumF M (a ++ b) s = (sumF M a s).bind (sumF M b) := by
  induction a generalizing s with
  | nil => rfl
  | cons x a ih =>
    show (if 0 ≤ x ∧ s + x.toNat ≤ M then sumF M (a ++ b) (s + x.toNat) else none) = (if 0 ≤ x ∧ s + x.toNat ≤ M then sumF M a (s + x.toNat) else none).bind (sumF M b)
    split
    · exact ih _
    · rfl
theorem sumF_ge (M : Nat) (l : List Int) (s t : Nat) (h : sumF M l s = some t) : s ≤ t ∧ (s ≤ M → t ≤ M) := by
  induction l generalizing s with
  | nil =>
    have : s = t := Option.some.inj h
    omega
  | cons x l ih =>
    unfold sumF at h
    split at h
    · have := ih _ h; omega
    · cases h
/-- The sum from s is the sum from 0, if that fits. -/
theorem sumF_shift (M : Nat) (l : List Int) (s z : Nat) (hs : s + z ≤ M) : sumF M l (s + z) = (sumF M l z).bind fun t => if s + t ≤ M then some (s + t) else none := by
  induction l generalizing z with
  | nil =>
    show some (s + z) = if s + z ≤ M then some (s + z) else none
    rw [if_pos hs]
  | cons x l ih =>
    unfold sumF
    by_cases hx : 0 ≤ x
    · by_cases h1 : s + z + x.toNat ≤ M
      · rw [if_pos ⟨hx, h1⟩, if_pos ⟨hx, by omega⟩, ← ih (z + x.toNat) (by omega)]
        congr 1; omega
      · rw [if_neg (fun h => h1 h.2)]
        by_cases h2 : z + x.toNat ≤ M
        · rw [if_pos ⟨hx, h2⟩]
          cases ht : sumF M l (z + x.toNat) with
          | none => rfl
          | some t =>
            have := sumF_ge M l _ t ht
            show none = if s + t ≤ M then some (s + t) else none
            rw [if_neg (by omega)]
        · rw [if_neg (fun h => h2 h.2)]; rfl
    · rw [if_neg (fun h => hx h.1), if_neg (fun h => hx h.1)]; rfl
/-- The sums of the two parts of a list and of the whole. -/
theorem sumF_parts (M : Nat) (a b : List Int) : sumF M (a ++ b) 0 = (sumF M a 0).bind fun s => (sumF M b 0).bind fun t => if s + t ≤ M then some (s + t) else none := by
  rw [sumF_append]
  cases h : sumF M a 0 with
  | none => rfl
  | some s =>
    have hs := sumF_ge M a 0 s h
    exact sumF_shift M b s 0 (by have := hs.2 (Nat.zero_le _); omega)

/-! ### Division bit by bit, as a loop from the highest bit on -/
theorem divide_step (a b n i : Nat) (hn : 1 ≤ n) : divBit b n ((a / 2 ^ (i + 1)) * b / n) ((a / 2 ^ (i + 1)) * b % n) (a / 2 ^ i % 2) = ((a / 2 ^ i) * b / n, (a / 2 ^ i) * b % n) := by
  have hb : a / 2 ^ i % 2 ≤ 1 := by have := Nat.mod_lt (a / 2 ^ i) (show 0 < 2 by omega); omega
  have e : a / 2 ^ i = 2 * (a / 2 ^ (i + 1)) + a / 2 ^ i % 2 := by
    have h := Nat.div_add_mod (a / 2 ^ i) 2
    rw [Nat.div_div_eq_div_mul, ← Nat.pow_succ] at h
    exact h.symm
  have h := divBit_spec b n ((a / 2 ^ (i + 1)) * b / n) ((a / 2 ^ (i + 1)) * b % n) (a / 2 ^ i % 2) (a / 2 ^ (i + 1)) hn (Nat.mod_lt _ (by omega)) hb
    (by rw [Nat.mul_comm _ n]; exact Nat.div_add_mod _ _)
  rw [← e] at h
  have h2 := div_unique _ _ n _ h.2 h.1
  exact Prod.ext h2.1 h2.2
theorem divide_start (a b n : Nat) (ha : a < 2 ^ 63) : (a / 2 ^ 63) * b / n = 0 ∧ (a / 2 ^ 63) * b % n = 0 := by
  rw [Nat.div_eq_of_lt ha, Nat.zero_mul]
  exact ⟨Nat.zero_div _, Nat.zero_mod _⟩
theorem divide_early (a b n i M : Nat) (h : M < (a / 2 ^ i) * b / n) : M < a * b / n := Nat.lt_of_lt_of_le h (part_le a b n i)

/-! ### The reference's choice: the first place of the greatest remainder, those that have been dealt counting as -1 -/
def restOf (r : Nat → Nat) (S : Nat → Bool) (j : Nat) : Int := if S j then -1 else (r j : Int)
/-- b is the first place of the greatest rest among the first m. -/
def Best (R : Nat → Int) (m b : Nat) : Prop := b < m ∧ ∀ j, j < m → R j < R b ∨ (R j = R b ∧ b ≤ j)
theorem best_one (R : Nat → Int) : Best R 1 0 := ⟨by omega, fun j hj => by
  have : j = 0 := by omega
  subst this; exact Or.inr ⟨rfl, Nat.le_refl _⟩⟩
theorem best_keep (R : Nat → Int) (m b : Nat) (h : Best R m b) (hm : ¬ R b < R m) : Best R (m + 1) b := ⟨by have := h.1; omega, fun j hj => by
  by_cases e : j = m
  · subst e
    have := h.1
    omega
  · exact h.2 j (by omega)⟩
theorem best_turn (R : Nat → Int) (m b : Nat) (h : Best R m b) (hm : R b < R m) : Best R (m + 1) m := ⟨by omega, fun j hj => by
  by_cases e : j = m
  · subst e; exact Or.inr ⟨rfl, Nat.le_refl _⟩
  · rcases h.2 j (by omega) with h1 | h1
    · left; omega
    · left; omega⟩
theorem best_ok (r : Nat → Nat) (S : Nat → Bool) (n b : Nat) (h : Best (restOf r S) n b) (hex : ∃ j, j < n ∧ S j = false) : S b = false ∧ ∀ j, j < n → S j = false → j ≠ b → bef r b j = true := by
  obtain ⟨j0, hj0, hs0⟩ := hex
  have hb : S b = false := by
    rw [Bool.eq_false_iff]
    intro hSb
    have h1 := h.2 j0 hj0
    unfold restOf at h1
    rw [if_neg (by rw [hs0]; decide), if_pos hSb] at h1
    omega
  refine ⟨hb, fun j hj hs hne => ?_⟩
  have h1 := h.2 j hj
  unfold restOf at h1
  rw [if_neg (by rw [hs]; decide), if_neg (by rw [hb]; decide)] at h1
  rw [bef_iff]
  omega
theorem exists_out (S : Nat → Bool) (n : Nat) (h : size n S < n) : ∃ j, j < n ∧ S j = false := by
  by_cases hall : ∀ i, i < n → S i = true
  · rw [size_all S n hall] at h; omega
  · have h2 : ∃ i, ¬ (i < n → S i = true) := Classical.not_forall.1 hall
    obtain ⟨i, hi⟩ := h2
    have h3 : i < n ∧ ¬ S i = true := by
      by_cases hlt : i < n
      · exact ⟨hlt, fun hs => hi fun _ => hs⟩
      · exact absurd (fun h => absurd h hlt) hi
    exact ⟨i, h3.1, by simpa using h3.2⟩
end Go.Proofs.Ytediphiebamffaa
