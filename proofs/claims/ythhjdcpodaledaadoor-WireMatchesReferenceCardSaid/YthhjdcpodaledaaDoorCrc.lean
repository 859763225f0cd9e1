/- Plain mathematics of the checksum: natural numbers and lists of bytes alone. No condition. -/
namespace Go.Proofs.YthhjdcpodaledaaDoor

theorem eq_of_xor {a b : Nat} (h : a ^^^ b = 0) : a = b := by
  have e : a = (a ^^^ b) ^^^ b := by rw [Nat.xor_assoc, Nat.xor_self, Nat.xor_zero]
  rw [e, h, Nat.zero_xor]

/-- One step of the register. -/
def step1 (r : Nat) : Nat := (r / 2) ^^^ (if r % 2 = 1 then 0x82F63B78 else 0)

theorem xor_div2 (a b : Nat) : (a ^^^ b) / 2 = a / 2 ^^^ b / 2 := by
  apply Nat.eq_of_testBit_eq
  intro i
  rw [Nat.testBit_div_two, Nat.testBit_xor, Nat.testBit_xor, Nat.testBit_div_two, Nat.testBit_div_two]
theorem xor_mod2 (a b : Nat) : (a ^^^ b) % 2 = (a + b) % 2 := by
  have h : (a ^^^ b).testBit 0 = (a.testBit 0 ^^ b.testBit 0) := Nat.testBit_xor ..
  rw [Nat.testBit_zero, Nat.testBit_zero, Nat.testBit_zero] at h
  have ha : a % 2 = 0 ∨ a % 2 = 1 := by omega
  have hb : b % 2 = 0 ∨ b % 2 = 1 := by omega
  have hc : (a ^^^ b) % 2 = 0 ∨ (a ^^^ b) % 2 = 1 := by omega
  rcases ha with ha | ha <;> rcases hb with hb | hb <;> rcases hc with hc | hc <;> simp [ha, hb, hc] at h <;> omega

theorem step1_xor (a b : Nat) : step1 (a ^^^ b) = step1 a ^^^ step1 b := by
  unfold step1
  rw [xor_div2, xor_mod2]
  have hx : ∀ p q r s : Nat, (p ^^^ q) ^^^ (r ^^^ s) = (p ^^^ r) ^^^ (q ^^^ s) := by
    intro p q r s
    rw [Nat.xor_assoc, Nat.xor_assoc, ← Nat.xor_assoc q r s, Nat.xor_comm q r, Nat.xor_assoc r q s]
  have ha : a % 2 = 0 ∨ a % 2 = 1 := by omega
  have hb : b % 2 = 0 ∨ b % 2 = 1 := by omega
  rcases ha with ha | ha <;> rcases hb with hb | hb
  · rw [if_neg (by omega), if_neg (by omega), if_neg (by omega)]; simp
  · rw [if_pos (by omega), if_neg (by omega), if_pos (by omega)]; simp [Nat.xor_assoc]
  · rw [if_pos (by omega), if_pos (by omega), if_neg (by omega)]
    rw [← hx]; simp
  · rw [if_neg (by omega), if_pos (by omega), if_pos (by omega)]
    rw [← hx]; simp

theorem step1_even (a : Nat) : step1 (2 * a) = a := by
  unfold step1
  rw [if_neg (by omega), Nat.xor_zero]; omega
theorem step1_lt (a : Nat) (h : a < 4294967296) : step1 a < 4294967296 := by
  unfold step1
  have h2 : (4294967296 : Nat) = 2 ^ 32 := by decide
  rw [h2]
  apply Nat.xor_lt_two_pow
  · omega
  · split <;> omega
theorem step1_zero : step1 0 = 0 := by decide
theorem step1_inj0 (a : Nat) (h : a < 4294967296) (hz : step1 a = 0) : a = 0 := by
  unfold step1 at hz
  by_cases hb : a % 2 = 1
  · rw [if_pos hb] at hz
    have : a / 2 = 0x82F63B78 := eq_of_xor hz
    omega
  · rw [if_neg hb, Nat.xor_zero] at hz
    omega

def stepN : Nat → Nat → Nat
  | 0, r => r
  | n + 1, r => stepN n (step1 r)

theorem stepN_xor (n a b : Nat) : stepN n (a ^^^ b) = stepN n a ^^^ stepN n b := by
  induction n generalizing a b with
  | zero => rfl
  | succ n ih => rw [stepN, step1_xor, ih]; rfl
theorem stepN_add (m n a : Nat) : stepN (m + n) a = stepN n (stepN m a) := by
  induction m generalizing a with
  | zero => simp [stepN]
  | succ m ih => rw [Nat.succ_add, stepN, ih]; rfl
theorem stepN_shift (n a : Nat) : stepN n (a * 2 ^ n) = a := by
  induction n generalizing a with
  | zero => simp [stepN]
  | succ n ih =>
    rw [stepN, show a * 2 ^ (n + 1) = 2 * (a * 2 ^ n) by rw [Nat.pow_succ, ← Nat.mul_assoc, Nat.mul_comm], step1_even, ih]
theorem stepN_lt (n a : Nat) (h : a < 4294967296) : stepN n a < 4294967296 := by
  induction n generalizing a with
  | zero => exact h
  | succ n ih => exact ih _ (step1_lt a h)
theorem stepN_inj0 (n a : Nat) (h : a < 4294967296) (hz : stepN n a = 0) : a = 0 := by
  induction n generalizing a with
  | zero => exact hz
  | succ n ih => exact step1_inj0 a h (ih _ (step1_lt a h) hz)
theorem stepN_zero (n : Nat) : stepN n 0 = 0 := by
  induction n with
  | zero => rfl
  | succ n ih => rw [stepN, step1_zero, ih]

/-- The table of 16 numbers. -/
def tab : List Nat := [0, 274646895, 549293790, 820201905, 1098587580, 1361435347, 1640403810, 1905808397, 2197175160, 2460548119, 2722870694, 2987750089, 3280807620, 3553878443, 3811616794, 4084100981]
def sh4 (r : Nat) : Nat := (r / 16) ^^^ tab.getD (r % 16) 0

theorem tab_step : ∀ i, i < 16 → stepN 4 i = tab.getD i 0 := by decide
theorem split16 (r : Nat) : r = (r / 16) * 2 ^ 4 ^^^ r % 16 := by
  apply Nat.eq_of_testBit_eq
  intro i
  rw [Nat.testBit_xor, Nat.testBit_mul_two_pow, show (16 : Nat) = 2 ^ 4 by decide, Nat.testBit_div_two_pow, Nat.testBit_mod_two_pow]
  by_cases h : i < 4
  · have h' : ¬ 4 ≤ i := by omega
    simp [h, h']
  · have : i - 4 + 4 = i := by omega
    simp [h, this]
    intro; omega
theorem sh4_step (r : Nat) : sh4 r = stepN 4 r := by
  conv => rhs; rw [split16 r]
  rw [stepN_xor, stepN_shift, tab_step _ (by omega)]; rfl
theorem tab_lt (i : Nat) : tab.getD i 0 < 4294967296 := by
  by_cases h : i < 16
  · have : ∀ i, i < 16 → tab.getD i 0 < 4294967296 := by decide
    exact this i h
  · rw [List.getD_eq_getElem?_getD, List.getElem?_eq_none (by simp [tab]; omega)]; decide
theorem sh4_lt (r : Nat) (h : r < 4294967296) : sh4 r < 4294967296 := by
  rw [sh4_step]; exact stepN_lt _ _ h

/-- The register behind the bytes of l. -/
def regF (r : Nat) (l : List UInt8) : Nat := l.foldl (fun r b => sh4 (sh4 (r ^^^ b.toNat))) r
def sumF (l : List UInt8) : Nat := 4294967295 ^^^ regF 4294967295 l

theorem regF_nil (r : Nat) : regF r [] = r := rfl
theorem regF_snoc (r : Nat) (l : List UInt8) (b : UInt8) : regF r (l ++ [b]) = sh4 (sh4 (regF r l ^^^ b.toNat)) := by
  unfold regF; rw [List.foldl_append]; rfl
theorem xor_byte_lt (r : Nat) (b : UInt8) (h : r < 4294967296) : r ^^^ b.toNat < 4294967296 := by
  have h2 : (4294967296 : Nat) = 2 ^ 32 := by decide
  have := b.toNat_lt
  rw [h2] at h ⊢
  exact Nat.xor_lt_two_pow h (by omega)
theorem regF_lt (r : Nat) (l : List UInt8) (h : r < 4294967296) : regF r l < 4294967296 := by
  induction l generalizing r with
  | nil => exact h
  | cons b t ih => exact ih _ (sh4_lt _ (sh4_lt _ (xor_byte_lt r b h)))
theorem sumF_lt (l : List UInt8) : sumF l < 4294967296 := by
  have h2 : (4294967296 : Nat) = 2 ^ 32 := by decide
  have := regF_lt 4294967295 l (by omega)
  unfold sumF
  rw [h2] at this ⊢
  exact Nat.xor_lt_two_pow (by omega) this

/-- The bytes as one number, the lowest first. -/
def val : List UInt8 → Nat
  | [] => 0
  | b :: t => b.toNat + 256 * val t

theorem byte_xor (b : UInt8) (v : Nat) : b.toNat + 256 * v = b.toNat ^^^ v * 2 ^ 8 := by
  have hb := b.toNat_lt
  apply Nat.eq_of_testBit_eq
  intro i
  rw [Nat.testBit_xor, Nat.testBit_mul_two_pow, show b.toNat + 256 * v = 2 ^ 8 * v + b.toNat by omega, Nat.testBit_two_pow_mul_add _ hb]
  by_cases h : i < 8
  · have h' : ¬ 8 ≤ i := by omega
    simp [h, h']
  · have : b.toNat.testBit i = false := Nat.testBit_lt_two_pow (Nat.lt_of_lt_of_le hb (Nat.pow_le_pow_right (by omega) (by omega)))
    simp [h, this]; intro; omega

theorem regF_val (r : Nat) (l : List UInt8) : regF r l = stepN (8 * l.length) (r ^^^ val l) := by
  induction l generalizing r with
  | nil => simp [regF, val, stepN]
  | cons b t ih =>
    have h1 : regF r (b :: t) = regF (sh4 (sh4 (r ^^^ b.toNat))) t := rfl
    rw [h1, ih, List.length_cons, show 8 * (t.length + 1) = 8 + 8 * t.length by omega, stepN_add, val, byte_xor, ← Nat.xor_assoc]
    congr 1
    rw [stepN_xor 8, stepN_shift, sh4_step, sh4_step, ← stepN_add]

/-- Two strings of one length: their checksums part by the steps over where the strings part. -/
theorem sumF_diff (l m : List UInt8) (h : l.length = m.length) : sumF l ^^^ sumF m = stepN (8 * l.length) (val l ^^^ val m) := by
  unfold sumF
  rw [regF_val, regF_val, ← h]
  have hx : ∀ p q r s : Nat, (p ^^^ q) ^^^ (r ^^^ s) = (p ^^^ r) ^^^ (q ^^^ s) := by
    intro p q r s
    rw [Nat.xor_assoc, Nat.xor_assoc, ← Nat.xor_assoc q r s, Nat.xor_comm q r, Nat.xor_assoc r q s]
  rw [hx, Nat.xor_self, Nat.zero_xor, ← stepN_xor, hx, Nat.xor_self, Nat.zero_xor]

theorem sumF_burst (l m : List UInt8) (k D : Nat) (h : l.length = m.length) (hk : k ≤ 8 * l.length) (hD : D < 4294967296) (hv : val m = val l ^^^ D * 2 ^ k) :
    (sumF m = sumF l) ↔ D = 0 := by
  have h1 := sumF_diff l m h
  have h2 : val l ^^^ val m = D * 2 ^ k := by rw [hv, ← Nat.xor_assoc, Nat.xor_self, Nat.zero_xor]
  rw [h2, show 8 * l.length = k + (8 * l.length - k) by omega, stepN_add, stepN_shift] at h1
  constructor
  · intro e
    rw [e, Nat.xor_self] at h1
    exact stepN_inj0 _ _ hD h1.symm
  · intro e
    rw [e, stepN_zero] at h1
    exact (eq_of_xor h1).symm

theorem val_append (l m : List UInt8) : val (l ++ m) = val l + 256 ^ l.length * val m := by
  induction l with
  | nil => simp [val]
  | cons b t ih => rw [List.cons_append, val, ih, val, List.length_cons, Nat.pow_succ, Nat.mul_add, Nat.add_assoc, ← Nat.mul_assoc, Nat.mul_comm 256 (256 ^ t.length)]

/-- Turning bit k % 8 of byte k / 8 turns bit k of the number. -/
theorem val_flip (l : List UInt8) (k : Nat) (hk : k / 8 < l.length) :
    val (l.set (k / 8) (UInt8.ofNat ((l[k / 8]'hk).toNat ^^^ 2 ^ (k % 8)))) = val l ^^^ 2 ^ k := by
  induction l generalizing k with
  | nil => simp at hk
  | cons b t ih =>
    by_cases h : k < 8
    · have h0 : k / 8 = 0 := by omega
      have h1 : k % 8 = k := by omega
      have hb := b.toNat_lt
      have hp : 2 ^ k < 2 ^ 8 := Nat.pow_lt_pow_right (by omega) h
      have hx : b.toNat ^^^ 2 ^ k < 2 ^ 8 := Nat.xor_lt_two_pow hb hp
      have hy : (UInt8.ofNat (b.toNat ^^^ 2 ^ k)).toNat = b.toNat ^^^ 2 ^ k := by
        rw [UInt8.toNat_ofNat']; exact Nat.mod_eq_of_lt hx
      simp only [h0, h1, List.set_cons_zero, List.getElem_cons_zero, val]
      rw [byte_xor, hy, byte_xor b]
      rw [Nat.xor_assoc, Nat.xor_assoc, Nat.xor_comm (2 ^ k)]
    · obtain ⟨j, rfl⟩ : ∃ j, k = j + 8 := ⟨k - 8, by omega⟩
      have h0 : (j + 8) / 8 = j / 8 + 1 := by omega
      have h1 : (j + 8) % 8 = j % 8 := by omega
      have hj : j / 8 < t.length := by rw [h0] at hk; simpa using hk
      simp only [h0, h1, List.set_cons_succ, List.getElem_cons_succ, val]
      rw [ih j hj, byte_xor, byte_xor, Nat.pow_add, Nat.xor_assoc]
      congr 1
      apply Nat.eq_of_testBit_eq
      intro i
      rw [Nat.testBit_mul_two_pow, Nat.testBit_xor, Nat.testBit_xor, Nat.testBit_mul_two_pow, Nat.testBit_mul_two_pow]
      by_cases h8 : 8 ≤ i <;> simp [h8]

/-- Byte by byte XOR of three strings. -/
def xor3 : List UInt8 → List UInt8 → List UInt8 → List UInt8
  | a :: l, b :: m, c :: n => UInt8.ofNat (a.toNat ^^^ b.toNat ^^^ c.toNat) :: xor3 l m n
  | _, _, _ => []

theorem xor3_val (l m n : List UInt8) (h1 : l.length = m.length) (h2 : l.length = n.length) :
    (xor3 l m n).length = l.length ∧ val (xor3 l m n) = val l ^^^ val m ^^^ val n := by
  induction l generalizing m n with
  | nil =>
    cases m with
    | nil => cases n with
      | nil => simp [xor3, val]
      | cons _ _ => simp at h2
    | cons _ _ => simp at h1
  | cons a l ih =>
    cases m with
    | nil => simp at h1
    | cons b m =>
      cases n with
      | nil => simp at h2
      | cons c n =>
        obtain ⟨e1, e2⟩ := ih m n (by simpa using h1) (by simpa using h2)
        refine ⟨by simp [xor3, e1], ?_⟩
        have ha := a.toNat_lt
        have hb := b.toNat_lt
        have hc := c.toNat_lt
        have hx : a.toNat ^^^ b.toNat ^^^ c.toNat < 2 ^ 8 := Nat.xor_lt_two_pow (Nat.xor_lt_two_pow ha hb) hc
        have hy : (UInt8.ofNat (a.toNat ^^^ b.toNat ^^^ c.toNat)).toNat = a.toNat ^^^ b.toNat ^^^ c.toNat := by
          rw [UInt8.toNat_ofNat']; exact Nat.mod_eq_of_lt hx
        simp only [xor3, val]
        rw [byte_xor, byte_xor, byte_xor, byte_xor, hy, e2]
        apply Nat.eq_of_testBit_eq
        intro i
        simp only [Nat.testBit_xor, Nat.testBit_mul_two_pow]
        by_cases h8 : 8 ≤ i
        · simp [h8]
          cases a.toNat.testBit i <;> cases b.toNat.testBit i <;> cases c.toNat.testBit i <;> cases (val l).testBit (i - 8) <;> cases (val m).testBit (i - 8) <;> cases (val n).testBit (i - 8) <;> rfl
        · simp [h8]

theorem sumF_affine (l m n : List UInt8) (h1 : l.length = m.length) (h2 : l.length = n.length) : sumF (xor3 l m n) = sumF l ^^^ sumF m ^^^ sumF n := by
  obtain ⟨e1, e2⟩ := xor3_val l m n h1 h2
  have h := sumF_diff (xor3 l m n) l e1
  have h' := sumF_diff m n (h1.symm.trans h2)
  rw [e1, e2] at h
  have e3 : val l ^^^ val m ^^^ val n ^^^ val l = val m ^^^ val n := by
    rw [Nat.xor_assoc (val l), Nat.xor_comm (val l), Nat.xor_assoc, Nat.xor_self, Nat.xor_zero]
  rw [e3, h1, ← h'] at h
  have e4 : sumF (xor3 l m n) = (sumF (xor3 l m n) ^^^ sumF l) ^^^ sumF l := by rw [Nat.xor_assoc, Nat.xor_self, Nat.xor_zero]
  rw [e4, h, Nat.xor_assoc (sumF l), Nat.xor_comm (sumF l)]

/-- The reference's register, bit by bit. -/
def refF (r : Nat) (l : List UInt8) : Nat := l.foldl (fun r b => stepN 8 (r ^^^ b.toNat)) r
theorem refF_regF (r : Nat) (l : List UInt8) : refF r l = regF r l := by
  unfold refF regF
  congr 1
  funext r b
  rw [sh4_step, sh4_step, ← stepN_add]

end Go.Proofs.YthhjdcpodaledaaDoor
