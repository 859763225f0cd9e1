/- Plain mathematics of encodings and checksums: lists of bytes and natural numbers alone. No condition. | Contracts of the small functions of package wire and of the laws: fits, fold, unfold, shift4, pick, Clone. Each for every argument within the stated bounds; shift4 where the table reads as the program lays it. | The contract of package wire's Int: for every string and offset it returns what the plain reader finds. Condition: the string's length fits an int. -/
import Derived.Test.YtngkfopdlkddnaaProg
import Derived.WalkKit
import Derived.WalkSpells
import Derived.WalkLawsBesides
import Derived.Lib.Hide
import Derived.IntWalk
namespace Go.Proofs.Ytngkfopdlkddnaa
/-- The groups of z, at most k + 1 of them. -/
def encF : Nat → Nat → List UInt8
  | 0, z => [UInt8.ofNat z]
  | k + 1, z => if z < 128 then [UInt8.ofNat z] else UInt8.ofNat (z % 128 + 128) :: encF k (z / 128)

def enc (z : Nat) : List UInt8 := encF 8 z

/-- What a reader of at most k groups finds at the head of l: a number, and how many bytes it took. -/
def read : Nat → Bool → List UInt8 → Option (Nat × Nat)
  | 0, _, _ => none
  | _ + 1, _, [] => none
  | k + 1, first, b :: t =>
    if b.toNat < 128 then (if b.toNat = 0 ∧ first = false then none else some (b.toNat, 1))
    else match read k false t with
      | none => none
      | some (z, c) => some (b.toNat - 128 + 128 * z, c + 1)

theorem encF_ne (k z : Nat) : encF k z ≠ [] := by
  cases k with
  | zero => simp [encF]
  | succ k => unfold encF; split <;> simp

theorem encF_length (k z : Nat) : 1 ≤ (encF k z).length ∧ (encF k z).length ≤ k + 1 := by
  induction k generalizing z with
  | zero => simp [encF]
  | succ k ih =>
    unfold encF
    split
    · simp
    · have := ih (z / 128)
      simp; omega

theorem read_encF (k z : Nat) (first : Bool) (q : List UInt8) (hz : z < 128 ^ (k + 1)) (hf : first = true ∨ 0 < z) :
    read (k + 1) first (encF k z ++ q) = some (z, (encF k z).length) := by
  induction k generalizing z first with
  | zero =>
    have h1 : z < 128 := by simpa using hz
    have h2 : (UInt8.ofNat z).toNat = z := by simp; omega
    simp only [encF, List.cons_append, List.nil_append, read, h2, h1, if_true, List.length_singleton]
    rw [if_neg]
    rintro ⟨a, b⟩
    rcases hf with h | h
    · rw [h] at b; cases b
    · omega
  | succ k ih =>
    unfold encF
    by_cases h1 : z < 128
    · have h2 : (UInt8.ofNat z).toNat = z := by simp; omega
      simp only [h1, if_true, List.cons_append, List.nil_append, read, h2, List.length_singleton]
      rw [if_neg]
      rintro ⟨a, b⟩
      rcases hf with h | h
      · rw [h] at b; cases b
      · omega
    · have h2 : (UInt8.ofNat (z % 128 + 128)).toNat = z % 128 + 128 := by simp; omega
      have h3 := ih (z / 128) false (by
        have : z < 128 * 128 ^ (k + 1) := by rw [Nat.pow_succ 128 (k + 1)] at hz; omega
        omega) (Or.inr (by omega))
      simp only [h1, if_false, List.cons_append]
      rw [read, h2, if_neg (by omega), h3]
      simp only [List.length_cons]
      congr 2
      omega

theorem read_enc (z : Nat) (q : List UInt8) (hz : z < 9223372036854775808) :
    read 9 true (enc z ++ q) = some (z, (enc z).length) :=
  read_encF 8 z true q (by simpa using hz) (Or.inl rfl)

theorem read_sound (k : Nat) (first : Bool) (l : List UInt8) (z c : Nat) (h : read k first l = some (z, c)) :
    l.take c = encF (k - 1) z ∧ 1 ≤ c ∧ c ≤ l.length ∧ c ≤ k ∧ z < 128 ^ c ∧ (first = false → 0 < z) := by
  induction k generalizing first l z c with
  | zero => simp [read] at h
  | succ k ih =>
    cases l with
    | nil => simp [read] at h
    | cons b t =>
      rw [read] at h
      by_cases h1 : b.toNat < 128
      · rw [if_pos h1] at h
        by_cases h2 : b.toNat = 0 ∧ first = false
        · rw [if_pos h2] at h; cases h
        · rw [if_neg h2] at h
          simp only [Option.some.injEq, Prod.mk.injEq] at h
          obtain ⟨rfl, rfl⟩ := h
          refine ⟨?_, by omega, by simp, by omega, by simpa using h1, fun hf => ?_⟩
          · cases k with
            | zero => simp [encF]
            | succ k => simp [encF, h1]
          · have : ¬ b.toNat = 0 := fun e => h2 ⟨e, hf⟩
            omega
      · rw [if_neg h1] at h
        cases hr : read k false t with
        | none => rw [hr] at h; cases h
        | some p =>
          obtain ⟨z', c'⟩ := p
          rw [hr] at h
          simp only [Option.some.injEq, Prod.mk.injEq] at h
          obtain ⟨rfl, rfl⟩ := h
          obtain ⟨g1, g2, g3, g4, g5, g6⟩ := ih false t z' c' hr
          have hb := b.toNat_lt
          have hz := g6 rfl
          refine ⟨?_, by omega, by simp; omega, by omega, ?_, fun _ => by omega⟩
          · cases k with
            | zero => simp [read] at hr
            | succ k =>
              simp only [Nat.add_sub_cancel] at g1 ⊢
              rw [encF, if_neg (by omega), List.take_succ_cons, g1]
              congr 1
              · have : (b.toNat - 128 + 128 * z') % 128 + 128 = b.toNat := by omega
                rw [this]; simp
              · congr 1; omega
          · rw [Nat.pow_succ]; omega

theorem read_bound (l : List UInt8) (z c : Nat) (h : read 9 true l = some (z, c)) : l.take c = enc z ∧ 1 ≤ c ∧ c ≤ l.length ∧ c ≤ 9 ∧ z < 9223372036854775808 := by
  obtain ⟨h1, h2, h3, h4, h5, _⟩ := read_sound 9 true l z c h
  refine ⟨h1, h2, h3, h4, Nat.lt_of_lt_of_le h5 ?_⟩
  have : 128 ^ c ≤ 128 ^ 9 := Nat.pow_le_pow_right (by omega) h4
  simpa using this

theorem read_more (k : Nat) (first : Bool) (l q : List UInt8) (r : Nat × Nat) (h : read k first l = some r) : read k first (l ++ q) = some r := by
  induction k generalizing first l r with
  | zero => simp [read] at h
  | succ k ih =>
    cases l with
    | nil => simp [read] at h
    | cons b t =>
      rw [List.cons_append, read]
      rw [read] at h
      by_cases h1 : b.toNat < 128
      · rw [if_pos h1] at h ⊢; exact h
      · rw [if_neg h1] at h ⊢
        cases hr : read k false t with
        | none => rw [hr] at h; cases h
        | some p => rw [hr] at h; rw [ih false t p hr]; exact h

/-- No proper beginning of an encoding is accepted. -/
theorem read_short (z : Nat) (hz : z < 9223372036854775808) (j : Nat) (hj : j < (enc z).length) : read 9 true ((enc z).take j) = none := by
  cases hr : read 9 true ((enc z).take j) with
  | none => rfl
  | some p =>
    exfalso
    obtain ⟨z', c⟩ := p
    have h1 := read_more 9 true _ ((enc z).drop j) _ hr
    rw [List.take_append_drop] at h1
    have h2 := read_enc z [] hz
    rw [List.append_nil] at h2
    rw [h2] at h1
    simp only [Option.some.injEq, Prod.mk.injEq] at h1
    have h3 := (read_bound _ _ _ hr).2.2.1
    simp only [List.length_take] at h3
    omega

/-- Of two encodings neither is a beginning of the other, unless they are the same. -/
theorem enc_prefix (y z : Nat) (hy : y < 9223372036854775808) (hz : z < 9223372036854775808) (q : List UInt8) (h : enc z = enc y ++ q) : y = z := by
  have h1 := read_enc y q hy
  have h2 := read_enc z [] hz
  rw [List.append_nil, h, h1] at h2
  simp only [Option.some.injEq, Prod.mk.injEq] at h2
  exact h2.1

/-! ### Folding -/
def fold (n : Int) : Nat := if n < 0 then (-2 * n - 1).toNat else (2 * n).toNat
def unfold' (z : Nat) : Int := if z % 2 = 1 then -((z / 2 : Nat) : Int) - 1 else ((z / 2 : Nat) : Int)
def MaxI : Int := 4611686018427387903
def Fits (n : Int) : Prop := -4611686018427387903 ≤ n ∧ n ≤ 4611686018427387903
instance (n : Int) : Decidable (Fits n) := by unfold Fits; infer_instance

theorem unfold_fold (n : Int) : unfold' (fold n) = n := by
  unfold unfold' fold
  split <;> split <;> omega
theorem fold_unfold (z : Nat) : fold (unfold' z) = z := by
  unfold unfold' fold
  split <;> split <;> omega
theorem fold_lt (n : Int) (h : Fits n) : fold n < 9223372036854775808 := by
  unfold Fits at h; unfold fold; split <;> omega

/-- PutInt, as bytes. -/
def putI (n : Int) : List UInt8 := enc (fold n)
theorem putI_length (n : Int) : 1 ≤ (putI n).length ∧ (putI n).length ≤ 9 := encF_length 8 _

/-- Int: the value, the end, whether accepted. -/
def getI (s : List UInt8) (at' : Nat) : Option (Int × Nat) :=
  match read 9 true (s.drop at') with
  | none => none
  | some (z, c) => if Fits (unfold' z) then some (unfold' z, at' + c) else none

theorem getI_putI (n : Int) (p q : List UInt8) (h : Fits n) : getI (p ++ putI n ++ q) p.length = some (n, p.length + (putI n).length) := by
  unfold getI
  rw [List.append_assoc, List.drop_left, putI, read_enc _ _ (fold_lt n h)]
  simp only [unfold_fold, h, if_true]

theorem getI_sound (s : List UInt8) (a : Nat) (n : Int) (e : Nat) (h : getI s a = some (n, e)) :
    Fits n ∧ a < e ∧ e ≤ s.length ∧ e ≤ a + 9 ∧ (s.take e).drop a = putI n := by
  unfold getI at h
  cases hr : read 9 true (s.drop a) with
  | none => rw [hr] at h; cases h
  | some p =>
    obtain ⟨z, c⟩ := p
    rw [hr] at h
    simp only at h
    by_cases hf : Fits (unfold' z)
    · rw [if_pos hf] at h
      simp only [Option.some.injEq, Prod.mk.injEq] at h
      obtain ⟨rfl, rfl⟩ := h
      obtain ⟨h1, h2, h3, h4, h5⟩ := read_bound _ _ _ hr
      simp only [List.length_drop] at h3
      refine ⟨hf, by omega, by omega, by omega, ?_⟩
      rw [putI, fold_unfold, ← h1, List.drop_take]
      congr 1; omega
    · rw [if_neg hf] at h; cases h

theorem getI_none_short (n : Int) (h : Fits n) (j : Nat) (hj : j < (putI n).length) : getI ((putI n).take j) 0 = none := by
  unfold getI
  rw [List.drop_zero, putI, read_short _ (fold_lt n h) j hj]

/-- PutString. -/
def putS (s : List UInt8) : List UInt8 := putI s.length ++ s
/-- String. -/
def getS (s : List UInt8) (a : Nat) : Option (List UInt8 × Nat) :=
  match getI s a with
  | none => none
  | some (n, e) => if n < 0 ∨ 65536 < n ∨ (s.length : Int) - e < n then none else some ((s.drop e).take n.toNat, e + n.toNat)

theorem fits_small (n : Nat) (h : n ≤ 65536) : Fits (n : Int) := by unfold Fits; omega

theorem getS_putS (t p q : List UInt8) (h : t.length ≤ 65536) : getS (p ++ putS t ++ q) p.length = some (t, p.length + (putS t).length) := by
  unfold getS putS
  have e : p ++ (putI t.length ++ t) ++ q = p ++ putI (t.length : Int) ++ (t ++ q) := by simp
  rw [e, getI_putI _ _ _ (fits_small _ h)]
  simp only
  rw [if_neg]
  · have e2 : p ++ putI (t.length : Int) ++ (t ++ q) = (p ++ putI (t.length : Int)) ++ (t ++ q) := rfl
    have e3 : p.length + (putI (t.length : Int)).length = (p ++ putI (t.length : Int)).length := by simp
    rw [e3, List.drop_left, Int.toNat_natCast, List.take_left]
    simp [Nat.add_assoc]
  · simp only [List.length_append]
    omega

theorem getS_sound (s : List UInt8) (a : Nat) (v : List UInt8) (e : Nat) (h : getS s a = some (v, e)) :
    v.length ≤ 65536 ∧ a < e ∧ e ≤ s.length ∧ (s.take e).drop a = putS v := by
  unfold getS at h
  cases hr : getI s a with
  | none => rw [hr] at h; cases h
  | some p =>
    obtain ⟨n, m⟩ := p
    rw [hr] at h
    simp only at h
    by_cases hc : n < 0 ∨ 65536 < n ∨ (s.length : Int) - m < n
    · rw [if_pos hc] at h; cases h
    · rw [if_neg hc] at h
      simp only [Option.some.injEq, Prod.mk.injEq] at h
      obtain ⟨rfl, rfl⟩ := h
      obtain ⟨h1, h2, h3, h4, h5⟩ := getI_sound s a n m hr
      have hl : ((s.drop m).take n.toNat).length = n.toNat := by simp; omega
      refine ⟨by omega, by omega, by omega, ?_⟩
      have hn : ((((s.drop m).take n.toNat).length : Nat) : Int) = n := by omega
      unfold putS
      rw [hn, ← h5]
      have e1 : s.take (m + n.toNat) = s.take m ++ (s.drop m).take n.toNat := by
        rw [List.take_add]
      rw [e1, List.drop_append_of_le_length (by simp; omega)]

theorem getI_more (s q : List UInt8) (a : Nat) (ha : a ≤ s.length) (r : Int × Nat) (h : getI s a = some r) : getI (s ++ q) a = some r := by
  unfold getI at h ⊢
  rw [List.drop_append_of_le_length ha]
  cases hr : read 9 true (s.drop a) with
  | none => rw [hr] at h; cases h
  | some p => rw [hr] at h; rw [read_more _ _ _ _ _ hr]; exact h

theorem getS_none_short (t : List UInt8) (h : t.length ≤ 65536) (j : Nat) (hj : j < (putS t).length) : getS ((putS t).take j) 0 = none := by
  cases hr : getS ((putS t).take j) 0 with
  | none => rfl
  | some p =>
    exfalso
    obtain ⟨v, e⟩ := p
    unfold getS at hr
    cases hg : getI ((putS t).take j) 0 with
    | none => rw [hg] at hr; cases hr
    | some p =>
      obtain ⟨n, m⟩ := p
      have hg2 := getI_more _ ((putS t).drop j) 0 (by omega) _ hg
      rw [List.take_append_drop] at hg2
      have hg3 := getI_putI (t.length : Int) [] t (fits_small _ h)
      simp only [List.nil_append, List.length_nil, Nat.zero_add] at hg3
      unfold putS at hg2
      rw [hg3] at hg2
      simp only [Option.some.injEq, Prod.mk.injEq] at hg2
      obtain ⟨rfl, rfl⟩ := hg2
      rw [hg] at hr
      simp only at hr
      have hl : ((putS t).take j).length = j := by simp; omega
      rw [hl] at hr
      have hp : (putS t).length = (putI (t.length : Int)).length + t.length := by simp [putS]
      rw [if_pos (by omega)] at hr
      cases hr

theorem putI_prefix (m n : Int) (hm : Fits m) (hn : Fits n) (q : List UInt8) (h : putI n = putI m ++ q) : m = n := by
  have := enc_prefix _ _ (fold_lt m hm) (fold_lt n hn) q h
  rw [← unfold_fold m, this, unfold_fold]

end Go.Proofs.Ytngkfopdlkddnaa
namespace Go.Proofs.Ytngkfopdlkddnaa
open Go.RowKit
theorem fits_yes (n : Int) (w : World) (h1 : -4611686018427387903 ≤ n) (h2 : n ≤ 4611686018427387903) :
    Calls Try.prog 70 #[.int .i64 n] w fun e w' => e = .returned (.bool true) ∧ w = w' := by
  go_enter Try.func70, Try.ntmps70
  go_wp2
  go_ret
  exact ⟨rfl, rfl⟩
theorem fits_low (n : Int) (w : World) (h1 : n < -4611686018427387903) :
    Calls Try.prog 70 #[.int .i64 n] w fun e w' => e = .returned (.bool false) ∧ w = w' := by
  go_enter Try.func70, Try.ntmps70
  go_wp2
  go_ret
  exact ⟨rfl, rfl⟩
theorem fits_high (n : Int) (w : World) (h1 : 4611686018427387903 < n) :
    Calls Try.prog 70 #[.int .i64 n] w fun e w' => e = .returned (.bool false) ∧ w = w' := by
  have hd : decide (n ≤ 4611686018427387903) = false := by simpa using h1
  go_enter Try.func70, Try.ntmps70
  go_wp2
  go_ret
  exact ⟨rfl, rfl⟩

theorem fold_calls (n : Int) (w : World) (h1 : -4611686018427387903 ≤ n) (h2 : n ≤ 4611686018427387903) :
    Calls Try.prog 72 #[.int .i64 n] w fun e w' => e = .returned (.int .i64 ((fold n : Nat) : Int)) ∧ w = w' := by
  by_cases h : n < 0
  · have hf : ((fold n : Nat) : Int) = -2 * n - 1 := by unfold fold; rw [if_pos h]; omega
    rw [hf]; clear hf
    go_enter Try.func72, Try.ntmps72
    go_wp2
    go_ret
    exact ⟨rfl, rfl⟩
  · have hf : ((fold n : Nat) : Int) = 2 * n := by unfold fold; rw [if_neg h]; omega
    rw [hf]; clear hf
    go_enter Try.func72, Try.ntmps72
    go_wp2
    go_ret
    exact ⟨rfl, rfl⟩

end Go.Proofs.Ytngkfopdlkddnaa
namespace Go.Proofs.Ytngkfopdlkddnaa
open Go.RowKit
/-- What Int returns: value, end, errno. -/
def intF (s : List UInt8) (a : Int) : Int × Int × Int :=
  if a < 0 ∨ (s.length : Int) < a then (0, 0, 2) else
  match getI s a.toNat with
  | none => (0, 0, 10)
  | some (n, e) => (n, (e : Int), 0)

/-- What is still to be read, glued to what has been read. -/
def glue (z i : Nat) : Option (Nat × Nat) → Option (Nat × Nat)
  | none => none
  | some (y, c) => some (z + 128 ^ i * y, i + c)

theorem glue_step (z i k : Nat) (first : Bool) (b : UInt8) (t : List UInt8) (hb : ¬ b.toNat < 128) :
    glue z i (read (k + 1) first (b :: t)) = glue (z + b.toNat % 128 * 128 ^ i) (i + 1) (read k false t) := by
  rw [read, if_neg hb]
  cases read k false t with
  | none => rfl
  | some p =>
    obtain ⟨y, c⟩ := p
    have hlt := b.toNat_lt
    simp only [glue, Option.some.injEq, Prod.mk.injEq]
    refine ⟨?_, by omega⟩
    rw [show b.toNat % 128 = b.toNat - 128 by omega, Nat.pow_succ, Nat.mul_add, Nat.mul_comm (128 ^ i) (b.toNat - 128), ← Nat.mul_assoc, Nat.add_assoc]

theorem or_add (z b i : Nat) (hz : z < 128 ^ i) : z ||| (b * 128 ^ i) = z + b * 128 ^ i := by
  have e : 128 ^ i = 2 ^ (7 * i) := by rw [Nat.pow_mul]
  rw [e] at hz ⊢
  rw [Nat.or_comm, Nat.mul_comm, ← Nat.two_pow_add_eq_or_of_lt hz b, Nat.add_comm]

theorem ofInt64 (x : Nat) (h : x < 18446744073709551616) : (BitVec.ofInt 64 (x : Int)).toNat = x := by
  rw [BitVec.ofInt_natCast, BitVec.toNat_ofNat]; exact Nat.mod_eq_of_lt (by omega)
theorem or64 (x y : Nat) (hx : x < 9223372036854775808) (hy : y < 9223372036854775808) : bits .or .i64 (x : Int) (y : Int) = ((x ||| y : Nat) : Int) := by
  have hz : x ||| y < 2 ^ 63 := Nat.or_lt_two_pow (by omega) (by omega)
  show IntKind.i64.wrap ((BitVec.ofInt 64 (x : Int) ||| BitVec.ofInt 64 (y : Int)).toNat : Int) = _
  rw [BitVec.toNat_or, ofInt64 x (by omega), ofInt64 y (by omega)]
  exact wrap_small _ (by omega) (by omega)
theorem or_walk (y b k : Nat) (hk : k ≤ 8) (hy : y < 128 ^ k) :
    bits .or .i64 (y : Int) (wrap64 ((b : Int) % 128 * 2 ^ (7 * k))) = ((y + b % 128 * 128 ^ k : Nat) : Int) := by
  have h2 : 128 ^ k ≤ 128 ^ 8 := Nat.pow_le_pow_right (by omega) hk
  have h4 : 128 ^ 8 = 72057594037927936 := by decide
  have h3 : b % 128 * 128 ^ k ≤ 127 * 72057594037927936 := Nat.mul_le_mul (by omega) (by omega)
  have e : ((b : Int) % 128 * 2 ^ (7 * k)) = ((b % 128 * 128 ^ k : Nat) : Int) := by
    have e128 : (128 : Nat) ^ k = 2 ^ (7 * k) := by rw [Nat.pow_mul]
    rw [e128]
    simp
  rw [e, IntWalk.wrap64_in _ (by omega), or64 _ _ (by omega) (by omega), or_add _ _ _ hy]

theorem ret_ints {a b c a' b' c' : Int} (h1 : a = a') (h2 : b = b') (h3 : c = c') :
    Ending.returned (.tuple #[.int .i64 a, .int .i64 b, .int .i64 c]) = .returned (.tuple #[.int .i64 a', .int .i64 b', .int .i64 c']) := by rw [h1, h2, h3]

theorem intF_none (l : List UInt8) (p : Nat) (hp : p ≤ l.length) (h : getI l p = none) : intF l p = (0, 0, 10) := by
  unfold intF
  rw [if_neg (by omega), Int.toNat_natCast, h]
theorem intF_some (l : List UInt8) (p : Nat) (hp : p ≤ l.length) (n : Int) (e : Nat) (h : getI l p = some (n, e)) : intF l p = (n, (e : Int), 0) := by
  unfold intF
  rw [if_neg (by omega), Int.toNat_natCast, h]

/-- The round's end: what the reader finds where it stops. -/
theorem get_end (l : List UInt8) (p k y : Nat) (HR : read 9 true (l.drop p) = glue y k none) : getI l p = none := by
  unfold getI; rw [HR]; rfl
theorem drop_cons (s : ByteArray) (i : Nat) (h : i < s.size) : s.data.toList.drop i = s[i] :: s.data.toList.drop (i + 1) := by
  rw [List.drop_eq_getElem_cons (by simpa using h)]; rfl

end Go.Proofs.Ytngkfopdlkddnaa
