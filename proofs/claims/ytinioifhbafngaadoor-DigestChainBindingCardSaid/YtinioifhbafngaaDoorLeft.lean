/- Contracts of the small functions of the laws and of the reference implementation of layer 2: left, Left, binary, rotated. -/
import Derived.Test.YtinioifhbafngaaDoorProg
import Derived.Test.YtinioifhbafngaaDoorTree
import Derived.Test.YtinioifhbafngaaDoorSha
import Derived.WalkKit
import Derived.WalkSpells
import Derived.WalkLawsBesides
import Derived.Lib.Hide
import Derived.IntWalk
namespace Go.Proofs.YtinioifhbafngaaDoor
open Go.RowKit

theorem ret_int {k : IntKind} {a b : Int} (h : a = b) : Ending.returned (.int k a) = .returned (.int k b) := by rw [h]

theorem leftA_next (f k n : Nat) (h1 : 1 ≤ k) (hk : k < n) (hf : n ≤ k + f) (h : k < n - k) : ∃ g, leftA f k n = leftA g (2 * k) n ∧ n ≤ 2 * k + g := by
  cases f with
  | zero => omega
  | succ f => exact ⟨f, by rw [leftA, if_pos h], by omega⟩
theorem leftA_last (f k n : Nat) (h : ¬ k < n - k) : leftA f k n = k := by
  cases f with
  | zero => rfl
  | succ f => rw [leftA, if_neg h]

theorem left_calls (n : Nat) (w : World) (h2 : 2 ≤ n) (hn : n ≤ 9223372036854775807) :
    Calls Tryd.prog 35 #[.int .i64 (n : Int)] w fun e w' => e = .returned (.int .i64 ((left n : Nat) : Int)) ∧ w = w' := by
  go_enter Tryd.func35, Tryd.ntmps35
  go_wp2
  go_loop [3] (fun kv => ∃ k : Nat, kv = .int .i64 k ∧ 1 ≤ k ∧ k < n ∧ Hid (∃ f, left n = leftA f k n ∧ n ≤ k + f)) (fun kv => n - (intOf kv).toNat)
  case atStart => exact ⟨1, rfl, by omega, by omega, Lib.hid ⟨n, rfl, by omega⟩⟩
  case round =>
    obtain ⟨k, rfl, hk1, hkn, HF⟩ := hrel
    by_cases hlt : (k : Int) < (n : Int) - (k : Int)
    · have HG : Hid (∃ f, left n = leftA f (2 * k) n ∧ n ≤ 2 * k + f) := Lib.hid (by
        obtain ⟨f, h1, h2⟩ := HF.out
        obtain ⟨g, h3, h4⟩ := leftA_next f k n hk1 hkn h2 (by omega)
        exact ⟨g, by rw [h1, h3], h4⟩)
      go_wp2_with fail
      go_round
      case rel => exact ⟨2 * k, by go_num, by omega, by omega, HG⟩
      case measure => simp [intOf]; omega
    · have HG : Hid (left n = k) := Lib.hid (by
        obtain ⟨f, h1, h2⟩ := HF.out
        rw [h1, leftA_last f k n (by omega)])
      go_wp2_with fail
      go_ret
      exact ⟨by rw [HG.out]; rfl, rfl⟩

theorem Left_calls (n : Nat) (w : World) (h2 : 2 ≤ n) (hn : n ≤ 9223372036854775807) :
    Calls Tryd.prog 41 #[.int .i64 (n : Int)] w fun e w' => e = .returned (.int .i64 ((left n : Nat) : Int)) ∧ w = w' := by
  go_enter Tryd.func41, Tryd.ntmps41
  go_wp2
  go_loop [3] (fun kv => ∃ k : Nat, kv = .int .i64 k ∧ 1 ≤ k ∧ k < n ∧ Hid (∃ f, left n = leftA f k n ∧ n ≤ k + f)) (fun kv => n - (intOf kv).toNat)
  case atStart => exact ⟨1, rfl, by omega, by omega, Lib.hid ⟨n, rfl, by omega⟩⟩
  case round =>
    obtain ⟨k, rfl, hk1, hkn, HF⟩ := hrel
    by_cases hlt : (k : Int) < (n : Int) - (k : Int)
    · have HG : Hid (∃ f, left n = leftA f (2 * k) n ∧ n ≤ 2 * k + f) := Lib.hid (by
        obtain ⟨f, h1, h2⟩ := HF.out
        obtain ⟨g, h3, h4⟩ := leftA_next f k n hk1 hkn h2 (by omega)
        exact ⟨g, by rw [h1, h3], h4⟩)
      go_wp2_with fail
      go_round
      case rel => exact ⟨2 * k, by go_num, by omega, by omega, HG⟩
      case measure => simp [intOf]; omega
    · have HG : Hid (left n = k) := Lib.hid (by
        obtain ⟨f, h1, h2⟩ := HF.out
        rw [h1, leftA_last f k n (by omega)])
      go_wp2_with fail
      go_ret
      exact ⟨by rw [HG.out]; rfl, rfl⟩

/-- The number of binary digits. -/
def binN (n : Nat) : Nat := if n = 0 then 0 else Nat.log2 n + 1
theorem binN_step (n : Nat) (h : 0 < n) : binN n = binN (n / 2) + 1 := by
  unfold binN
  rw [if_neg (by omega)]
  rw [Nat.log2_def]
  by_cases h2 : 2 ≤ n
  · rw [if_pos h2, if_neg (by omega)]
  · rw [if_neg h2, if_pos (by omega)]
theorem binN_lt (n : Nat) : n < 2 ^ binN n := by
  unfold binN
  by_cases h : n = 0
  · rw [if_pos h]; subst h; decide
  · rw [if_neg h]; exact Nat.lt_log2_self
theorem binN_le (n : Nat) : binN n ≤ n := by
  induction n using Nat.strongRecOn with
  | _ n ih =>
    by_cases h : n = 0
    · subst h; decide
    · rw [binN_step n (by omega)]
      have := ih (n / 2) (by omega)
      omega

theorem binary_calls (n : Nat) (w : World) (hn : n ≤ 9223372036854775807) :
    Calls Tryd.prog 28 #[.int .i64 (n : Int)] w fun e w' => e = .returned (.int .i64 ((binN n : Nat) : Int)) ∧ w = w' := by
  have HB := Lib.hid (binN_le n)
  go_enter Tryd.func28, Tryd.ntmps28
  go_wp2
  go_loop [0, 3] (fun nv kv => ∃ k m : Nat, kv = .int .i64 k ∧ nv = .int .i64 m ∧ k ≤ n ∧ m ≤ n ∧ Hid (k + binN m = binN n)) (fun nv _ => (intOf nv).toNat)
  case atStart => exact ⟨0, n, rfl, rfl, by omega, by omega, Lib.hid (by omega)⟩
  case round =>
    obtain ⟨k, m, rfl, rfl, hk, hm, HF⟩ := hrel
    by_cases hlt : (0 : Int) < (m : Int)
    · have HG : Hid (k + 1 + binN (m / 2) = binN n) := Lib.hid (by
        rw [← HF.out, binN_step m (by omega)]; omega)
      have hk2 : k + 1 ≤ n := by have := HG.out; have := HB.out; omega
      go_wp2_with fail
      go_round
      case rel => exact ⟨k + 1, m / 2, by go_num, by go_num, by omega, by omega, HG⟩
      case measure => simp [intOf]; omega
    · have HG : Hid (binN n = k) := Lib.hid (by
        rw [← HF.out, show m = 0 by omega]; rfl)
      go_wp2_with fail
      go_ret
      exact ⟨by rw [HG.out]; rfl, rfl⟩

theorem ofInt32 (x : Nat) (h : x < 4294967296) : (BitVec.ofInt 32 (x : Int)).toNat = x := by
  rw [BitVec.ofInt_natCast, BitVec.toNat_ofNat]; exact Nat.mod_eq_of_lt (by omega)
theorem wrap32 (x : Nat) (h : x < 4294967296) : IntKind.u32.wrap (x : Int) = (x : Int) := by
  show ((x : Int) % 4294967296) = _
  omega
theorem u32_or (x y : Nat) (hx : x < 4294967296) (hy : y < 4294967296) : bits .or .u32 (x : Int) (y : Int) = ((x ||| y : Nat) : Int) := by
  have hz : x ||| y < 2 ^ 32 := Nat.or_lt_two_pow (by omega) (by omega)
  show IntKind.u32.wrap ((BitVec.ofInt 32 (x : Int) ||| BitVec.ofInt 32 (y : Int)).toNat : Int) = _
  rw [BitVec.toNat_or, ofInt32 x hx, ofInt32 y hy]
  exact wrap32 _ (by omega)
theorem u32_xor (x y : Nat) (hx : x < 4294967296) (hy : y < 4294967296) : bits .xor .u32 (x : Int) (y : Int) = ((x ^^^ y : Nat) : Int) := by
  have hz : x ^^^ y < 2 ^ 32 := Nat.xor_lt_two_pow (by omega) (by omega)
  show IntKind.u32.wrap ((BitVec.ofInt 32 (x : Int) ^^^ BitVec.ofInt 32 (y : Int)).toNat : Int) = _
  rw [BitVec.toNat_xor, ofInt32 x hx, ofInt32 y hy]
  exact wrap32 _ (by omega)
theorem u32_and (x y : Nat) (hx : x < 4294967296) (hy : y < 4294967296) : bits .and .u32 (x : Int) (y : Int) = ((x &&& y : Nat) : Int) := by
  have hz : x &&& y < 2 ^ 32 := Nat.and_lt_two_pow _ (by omega)
  show IntKind.u32.wrap ((BitVec.ofInt 32 (x : Int) &&& BitVec.ofInt 32 (y : Int)).toNat : Int) = _
  rw [BitVec.toNat_and, ofInt32 x hx, ofInt32 y hy]
  exact wrap32 _ (by omega)

theorem rotated_calls (x n : Nat) (w : World) (hx : x < 4294967296) (h1 : 1 ≤ n) (hn : n ≤ 31) :
    Calls Tryd.prog 51 #[.int .u32 (x : Int), .int .i64 (n : Int)] w fun e w' => e = .returned (.int .u32 ((rotN x n : Nat) : Int)) ∧ w' = w.drewN 1 := by
  have HE : Hid (bits BinOp.or IntKind.u32 ((x : Int) / 2 ^ n) ((x : Int) * 2 ^ (32 - n) % 4294967296) = ((rotN x n : Nat) : Int)) := Lib.hid (by
    have h2 : x / 2 ^ n ≤ x := Nat.div_le_self _ _
    have h3 := u32_or (x / 2 ^ n) (x * 2 ^ (32 - n) % 4294967296) (by omega) (by omega)
    unfold rotN
    rw [Nat.shiftRight_eq_div_pow, Nat.shiftLeft_eq, ← h3]
    simp)
  go_enter Tryd.func51, Tryd.ntmps51
  go_wp2
  go_region
  all_goals go_wp2_with fail
  go_ret
  exact ⟨by rw [← HE.out]; rfl, rfl⟩
theorem rotN_lt (x n : Nat) (hx : x < 4294967296) : rotN x n < 4294967296 := by
  unfold rotN
  have h : x >>> n ||| (x <<< (32 - n)) % 4294967296 < 2 ^ 32 := Nat.or_lt_two_pow (by rw [Nat.shiftRight_eq_div_pow]; have := Nat.div_le_self x (2 ^ n); omega) (by omega)
  omega
end Go.Proofs.YtinioifhbafngaaDoor
