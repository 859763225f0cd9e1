/- Contracts of the small functions of package digest: rotate, firstPart, splitLast, areDigests. -/
import Derived.Test.YtnbeebndcgoalaaDoorDFew
namespace Go.Proofs.YtnbeebndcgoalaaDoor
open Go.RowKit
theorem rotate_calls (x n : Nat) (w : World) (hx : x < 4294967296) (h1 : 1 ≤ n) (hn : n ≤ 31) :
    Calls Tryd.prog 84 #[.int .u32 (x : Int), .int .i64 (n : Int)] w fun e w' => e = .returned (.int .u32 ((rotN x n : Nat) : Int)) ∧ w' = w.drewN 1 := by
  have HE : Hid (bits BinOp.or IntKind.u32 ((x : Int) / 2 ^ n) ((x : Int) * 2 ^ (32 - n) % 4294967296) = ((rotN x n : Nat) : Int)) := Lib.hid (by
    have h2 : x / 2 ^ n ≤ x := Nat.div_le_self _ _
    have h3 := u32_or (x / 2 ^ n) (x * 2 ^ (32 - n) % 4294967296) (by omega) (by omega)
    unfold rotN
    rw [Nat.shiftRight_eq_div_pow, Nat.shiftLeft_eq, ← h3]
    simp)
  go_enter Tryd.func84, Tryd.ntmps84
  go_wp2
  go_region
  all_goals go_wp2_with fail
  go_ret
  exact ⟨by rw [← HE.out]; rfl, rfl⟩
theorem rotate_quiet (x : Nat) (z : Int) (w : World) (N : Nat) (hx : x < 4294967296) (h1 : 1 ≤ z) (hn : z ≤ 31) :
    Calls Tryd.prog 84 #[.int .u32 (x : Int), .int .i64 z] (w.drewN N) fun e w' => e = .returned (.int .u32 ((rotN x z.toNat : Nat) : Int)) ∧ ∃ m, w' = w.drewN m := by
  obtain ⟨n, rfl⟩ := Int.eq_ofNat_of_zero_le (show 0 ≤ z by omega)
  exact Calls.quiet_of ((rotate_calls x n _ hx (by omega) (by omega)).mono fun _ _ ⟨he, hw⟩ => ⟨he, 1, hw⟩)

end Go.Proofs.YtnbeebndcgoalaaDoor
