/- Plain mathematics of the division of a number of two words by one word, digit by digit (two digits of 32 bits). Natural numbers alone. -/
namespace Go.Proofs.Ytediphiebamffaa

/-- One digit: the state of a guess. q is the guess, r what the guess leaves of u. -/
structure Guess (u d y1 y0 q r : Nat) : Prop where
  sum : q * y1 + r = u
  ge : (u * 4294967296 + d) / (y1 * 4294967296 + y0) ≤ q
theorem guess_start (u d y1 y0 : Nat) (hy1 : 2147483648 ≤ y1) (hu : u < y1 * 4294967296 + y0) (hy0 : y0 < 4294967296) (hd : d < 4294967296) :
    Guess u d y1 y0 (u / y1) (u % y1) ∧ u / y1 ≤ 4294967297 := by
  have e := Nat.div_add_mod u y1
  have m : u % y1 < y1 := Nat.mod_lt _ (by omega)
  refine ⟨⟨by rw [Nat.mul_comm]; exact e, ?_⟩, ?_⟩
  · -- (u B + d) / (y1 B + y0) <= u / y1
    have h1 : (u * 4294967296 + d) / (y1 * 4294967296 + y0) ≤ (u * 4294967296 + d) / (y1 * 4294967296) := Nat.div_le_div_left (by omega) (by omega)
    have h2 : (u * 4294967296 + d) / (y1 * 4294967296) = u / y1 := by
      rw [Nat.mul_comm y1, ← Nat.div_div_eq_div_mul]
      congr 1; omega
    omega
  · have h3 : u / y1 < 4294967298 := by
      rw [Nat.div_lt_iff_lt_mul (by omega)]
      omega
    omega
/-- The test says whether the guess is too great. -/
theorem guess_big (u d y1 y0 q r : Nat) (h : Guess u d y1 y0 q r) (hy : 1 ≤ y1 * 4294967296 + y0) : (4294967296 * r + d < q * y0 ↔ (u * 4294967296 + d) / (y1 * 4294967296 + y0) < q) := by
  have e : q * (y1 * 4294967296 + y0) + r * 4294967296 = u * 4294967296 + q * y0 := by
    rw [Nat.mul_add, ← h.sum, Nat.add_mul, Nat.mul_assoc]; omega
  rw [Nat.div_lt_iff_lt_mul (by omega)]
  omega
theorem quot_lt (u d y : Nat) (hu : u < y) (hd : d < 4294967296) : (u * 4294967296 + d) / y < 4294967296 := by
  rw [Nat.div_lt_iff_lt_mul (by omega)]
  have : (u + 1) * 4294967296 ≤ y * 4294967296 := Nat.mul_le_mul_right _ hu
  omega
theorem guess_step (u d y1 y0 q r : Nat) (h : Guess u d y1 y0 q r) (hb : (u * 4294967296 + d) / (y1 * 4294967296 + y0) < q) : Guess u d y1 y0 (q - 1) (r + y1) :=
  have hq1 : 1 ≤ q := Nat.lt_of_le_of_lt (Nat.zero_le _) hb
  ⟨by
    have : (q - 1) * y1 + y1 = q * y1 := by
      conv => rhs; rw [show q = (q - 1) + 1 by omega, Nat.add_mul, Nat.one_mul]
    have := h.sum
    omega, by
    generalize (u * 4294967296 + d) / (y1 * 4294967296 + y0) = Q at hb
    omega⟩
/-- Where what is left has grown too great for a digit, the guess is right. -/
theorem guess_done (u d y1 y0 q r : Nat) (h : Guess u d y1 y0 q r) (hy : 1 ≤ y1 * 4294967296 + y0) (hy0 : y0 < 4294967296) (hq : q ≤ 4294967296) (hr : 4294967296 ≤ r) : q = (u * 4294967296 + d) / (y1 * 4294967296 + y0) := by
  have hb := guess_big u d y1 y0 q r h hy
  have h1 : q * y0 ≤ 4294967296 * 4294967295 := Nat.mul_le_mul hq (by omega)
  have hge := h.ge
  have hn : ¬ (u * 4294967296 + d) / (y1 * 4294967296 + y0) < q := fun hc => by
    have := hb.2 hc
    omega
  omega
theorem guess_right (u d y1 y0 q r : Nat) (h : Guess u d y1 y0 q r) (hy : 1 ≤ y1 * 4294967296 + y0) (hn : ¬ 4294967296 * r + d < q * y0) : q = (u * 4294967296 + d) / (y1 * 4294967296 + y0) := by
  have hb := guess_big u d y1 y0 q r h hy
  have hge := h.ge
  have : ¬ (u * 4294967296 + d) / (y1 * 4294967296 + y0) < q := fun hc => hn (hb.2 hc)
  omega
/-- Two digits. -/
theorem two_digits (u d1 d0 y : Nat) (hu : u < y) :
    ((u * 4294967296 + d1) / y) * 4294967296 + (((u * 4294967296 + d1) % y) * 4294967296 + d0) / y = (u * 18446744073709551616 + d1 * 4294967296 + d0) / y ∧
    (((u * 4294967296 + d1) % y) * 4294967296 + d0) % y = (u * 18446744073709551616 + d1 * 4294967296 + d0) % y := by
  obtain ⟨Q, hQ⟩ : ∃ Q, (u * 4294967296 + d1) / y = Q := ⟨_, rfl⟩
  obtain ⟨R, hR⟩ : ∃ R, (u * 4294967296 + d1) % y = R := ⟨_, rfl⟩
  have e := Nat.div_add_mod (u * 4294967296 + d1) y
  rw [hQ, hR] at e ⊢
  have e2 : u * 18446744073709551616 + d1 * 4294967296 + d0 = y * (Q * 4294967296) + (R * 4294967296 + d0) := by
    have : y * (Q * 4294967296) = (y * Q) * 4294967296 := (Nat.mul_assoc _ _ _).symm
    omega
  rw [e2]
  refine ⟨?_, ?_⟩
  · rw [Nat.mul_add_div (by omega)]
  · rw [Nat.mul_add_mod]
/-- What was scaled by a power of two. -/
theorem unscale (U y s : Nat) : (U * 2 ^ s) / (y * 2 ^ s) = U / y ∧ (U * 2 ^ s) % (y * 2 ^ s) / 2 ^ s = U % y := by
  have hp : 0 < 2 ^ s := Nat.pow_pos (by decide)
  refine ⟨Nat.mul_div_mul_right _ _ hp, ?_⟩
  rw [Nat.mul_mod_mul_right, Nat.mul_div_cancel _ hp]
/-- The words of the scaled number. -/
theorem scale_hi (hi lo s : Nat) (hs : s ≤ 64) : (hi * 18446744073709551616 + lo) * 2 ^ s / 18446744073709551616 = hi * 2 ^ s + lo / 2 ^ (64 - s) := by
  have e : (18446744073709551616 : Nat) = 2 ^ s * 2 ^ (64 - s) := by rw [← Nat.pow_add, show s + (64 - s) = 64 by omega]
  rw [Nat.add_mul, Nat.mul_right_comm, Nat.mul_comm _ 18446744073709551616, Nat.mul_add_div (by decide)]
  congr 1
  conv => lhs; rw [e]
  rw [Nat.mul_comm lo, Nat.mul_div_mul_left _ _ (Nat.pow_pos (by decide))]
theorem scale_lo (hi lo s : Nat) : (hi * 18446744073709551616 + lo) * 2 ^ s % 18446744073709551616 = lo * 2 ^ s % 18446744073709551616 := by
  rw [Nat.add_mul, Nat.mul_right_comm, Nat.mul_comm _ 18446744073709551616, Nat.mul_add_mod]
theorem scale_lt (hi lo y s : Nat) (h : hi < y) (hlo : lo < 18446744073709551616) : (hi * 18446744073709551616 + lo) * 2 ^ s / 18446744073709551616 < y * 2 ^ s := by
  rw [Nat.div_lt_iff_lt_mul (by decide), Nat.mul_right_comm]
  have h2 : hi * 18446744073709551616 + lo < y * 18446744073709551616 := by
    have : (hi + 1) * 18446744073709551616 ≤ y * 18446744073709551616 := Nat.mul_le_mul_right _ h
    omega
  exact Nat.mul_lt_mul_of_pos_right h2 (Nat.pow_pos (by decide))
theorem or_disj (a b k : Nat) (hb : b < 2 ^ k) : (a * 2 ^ k) ||| b = a * 2 ^ k + b := by
  rw [Nat.mul_comm]
  exact (Nat.two_pow_add_eq_or_of_lt hb a).symm
end Go.Proofs.Ytediphiebamffaa
