/- The contract of package wire's Int: for every string and offset it returns what the plain reader finds. Condition: the string's length fits an int. -/
import Derived.Test.YtnndnjnpkjpkpaaGreatDoorWSmall
namespace Go.Proofs.YtnndnjnpkjpkpaaGreatDoor
open Go.RowKit
/-- What Int returns: value, end, errno. -/
def intF (s : List UInt8) (a : Int) : Int × Int × Int :=
  if a < 0 ∨ (s.length : Int) < a then (0, 0, 2) else
  match getI s a.toNat with
  | none => (0, 0, 10)
  | some (n, e) => (n, (e : Int), 0)

/-- What is still to be read, glued to what has been read. -/
def glue (z i : Nat) : Option (Nat × Nat) → Option (Nat × Nat)
  | none => none
  | some (y, c) => some (z + 128 ^ i * y, i + c)

theorem glue_step (z i k : Nat) (first : Bool) (b : UInt8) (t : List UInt8) (hb : ¬ b.toNat < 128) :
    glue z i (read (k + 1) first (b :: t)) = glue (z + b.toNat % 128 * 128 ^ i) (i + 1) (read k false t) := by
  rw [read, if_neg hb]
  cases read k false t with
  | none => rfl
  | some p =>
    obtain ⟨y, c⟩ := p
    have hlt := b.toNat_lt
    simp only [glue, Option.some.injEq, Prod.mk.injEq]
    refine ⟨?_, by omega⟩
    rw [show b.toNat % 128 = b.toNat - 128 by omega, Nat.pow_succ, Nat.mul_add, Nat.mul_comm (128 ^ i) (b.toNat - 128), ← Nat.mul_assoc, Nat.add_assoc]

theorem or_add (z b i : Nat) (hz : z < 128 ^ i) : z ||| (b * 128 ^ i) = z + b * 128 ^ i := by
  have e : 128 ^ i = 2 ^ (7 * i) := by rw [Nat.pow_mul]
  rw [e] at hz ⊢
  rw [Nat.or_comm, Nat.mul_comm, ← Nat.two_pow_add_eq_or_of_lt hz b, Nat.add_comm]

theorem ofInt64 (x : Nat) (h : x < 18446744073709551616) : (BitVec.ofInt 64 (x : Int)).toNat = x := by
  rw [BitVec.ofInt_natCast, BitVec.toNat_ofNat]; exact Nat.mod_eq_of_lt (by omega)
theorem or64 (x y : Nat) (hx : x < 9223372036854775808) (hy : y < 9223372036854775808) : bits .or .i64 (x : Int) (y : Int) = ((x ||| y : Nat) : Int) := by
  have hz : x ||| y < 2 ^ 63 := Nat.or_lt_two_pow (by omega) (by omega)
  show IntKind.i64.wrap ((BitVec.ofInt 64 (x : Int) ||| BitVec.ofInt 64 (y : Int)).toNat : Int) = _
  rw [BitVec.toNat_or, ofInt64 x (by omega), ofInt64 y (by omega)]
  exact wrap_small _ (by omega) (by omega)
theorem or_walk (y b k : Nat) (hk : k ≤ 8) (hy : y < 128 ^ k) :
    bits .or .i64 (y : Int) (wrap64 ((b : Int) % 128 * 2 ^ (7 * k))) = ((y + b % 128 * 128 ^ k : Nat) : Int) := by
  have h2 : 128 ^ k ≤ 128 ^ 8 := Nat.pow_le_pow_right (by omega) hk
  have h4 : 128 ^ 8 = 72057594037927936 := by decide
  have h3 : b % 128 * 128 ^ k ≤ 127 * 72057594037927936 := Nat.mul_le_mul (by omega) (by omega)
  have e : ((b : Int) % 128 * 2 ^ (7 * k)) = ((b % 128 * 128 ^ k : Nat) : Int) := by
    have e128 : (128 : Nat) ^ k = 2 ^ (7 * k) := by rw [Nat.pow_mul]
    rw [e128]
    simp
  rw [e, IntWalk.wrap64_in _ (by omega), or64 _ _ (by omega) (by omega), or_add _ _ _ hy]

theorem ret_ints {a b c a' b' c' : Int} (h1 : a = a') (h2 : b = b') (h3 : c = c') :
    Ending.returned (.tuple #[.int .i64 a, .int .i64 b, .int .i64 c]) = .returned (.tuple #[.int .i64 a', .int .i64 b', .int .i64 c']) := by rw [h1, h2, h3]

theorem intF_none (l : List UInt8) (p : Nat) (hp : p ≤ l.length) (h : getI l p = none) : intF l p = (0, 0, 10) := by
  unfold intF
  rw [if_neg (by omega), Int.toNat_natCast, h]
theorem intF_some (l : List UInt8) (p : Nat) (hp : p ≤ l.length) (n : Int) (e : Nat) (h : getI l p = some (n, e)) : intF l p = (n, (e : Int), 0) := by
  unfold intF
  rw [if_neg (by omega), Int.toNat_natCast, h]

/-- The round's end: what the reader finds where it stops. -/
theorem get_end (l : List UInt8) (p k y : Nat) (HR : read 9 true (l.drop p) = glue y k none) : getI l p = none := by
  unfold getI; rw [HR]; rfl
theorem drop_cons (s : ByteArray) (i : Nat) (h : i < s.size) : s.data.toList.drop i = s[i] :: s.data.toList.drop (i + 1) := by
  rw [List.drop_eq_getElem_cons (by simpa using h)]; rfl

end Go.Proofs.YtnndnjnpkjpkpaaGreatDoor
