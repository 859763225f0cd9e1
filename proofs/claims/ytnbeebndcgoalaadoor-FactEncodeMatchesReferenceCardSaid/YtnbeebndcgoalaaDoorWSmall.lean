/- Contracts of the small functions of package wire and of the laws: fits, fold, unfold, shift4, pick, Clone. Each for every argument within the stated bounds; shift4 where the table reads as the program lays it. -/
import Derived.Test.YtnbeebndcgoalaaDoorWPlain
import Derived.WalkKit
import Derived.WalkSpells
import Derived.WalkLawsBesides
import Derived.Lib.Hide
import Derived.IntWalk
namespace Go.Proofs.YtnbeebndcgoalaaDoor
open Go.RowKit
theorem fits_yes (n : Int) (w : World) (h1 : -4611686018427387903 ≤ n) (h2 : n ≤ 4611686018427387903) :
    Calls Tryd.prog 67 #[.int .i64 n] w fun e w' => e = .returned (.bool true) ∧ w = w' := by
  go_enter Tryd.func67, Tryd.ntmps67
  go_wp2
  go_ret
  exact ⟨rfl, rfl⟩
theorem fits_low (n : Int) (w : World) (h1 : n < -4611686018427387903) :
    Calls Tryd.prog 67 #[.int .i64 n] w fun e w' => e = .returned (.bool false) ∧ w = w' := by
  go_enter Tryd.func67, Tryd.ntmps67
  go_wp2
  go_ret
  exact ⟨rfl, rfl⟩
theorem fits_high (n : Int) (w : World) (h1 : 4611686018427387903 < n) :
    Calls Tryd.prog 67 #[.int .i64 n] w fun e w' => e = .returned (.bool false) ∧ w = w' := by
  have hd : decide (n ≤ 4611686018427387903) = false := by simpa using h1
  go_enter Tryd.func67, Tryd.ntmps67
  go_wp2
  go_ret
  exact ⟨rfl, rfl⟩

theorem fold_calls (n : Int) (w : World) (h1 : -4611686018427387903 ≤ n) (h2 : n ≤ 4611686018427387903) :
    Calls Tryd.prog 69 #[.int .i64 n] w fun e w' => e = .returned (.int .i64 ((fold n : Nat) : Int)) ∧ w = w' := by
  by_cases h : n < 0
  · have hf : ((fold n : Nat) : Int) = -2 * n - 1 := by unfold fold; rw [if_pos h]; omega
    rw [hf]; clear hf
    go_enter Tryd.func69, Tryd.ntmps69
    go_wp2
    go_ret
    exact ⟨rfl, rfl⟩
  · have hf : ((fold n : Nat) : Int) = 2 * n := by unfold fold; rw [if_neg h]; omega
    rw [hf]; clear hf
    go_enter Tryd.func69, Tryd.ntmps69
    go_wp2
    go_ret
    exact ⟨rfl, rfl⟩

theorem unfold_calls (z : Int) (w : World) (h1 : 0 ≤ z) (h2 : z ≤ 9223372036854775807) :
    Calls Tryd.prog 88 #[.int .i64 z] w fun e w' => e = .returned (.int .i64 (unfold' z.toNat)) ∧ w = w' := by
  by_cases h : z % 2 = 1
  · have hf : unfold' z.toNat = -(z / 2) - 1 := by unfold unfold'; rw [if_pos (by omega)]; omega
    have hb : (z % 2 == 1) = true := by simpa using h
    rw [hf]; clear hf h
    go_enter Tryd.func88, Tryd.ntmps88
    go_wp2
    go_ret
    exact ⟨rfl, rfl⟩
  · have hf : unfold' z.toNat = z / 2 := by unfold unfold'; rw [if_neg (by omega)]; omega
    have hb : (z % 2 == 1) = false := by simpa using h
    rw [hf]; clear hf h
    go_enter Tryd.func88, Tryd.ntmps88
    go_wp2
    go_ret
    exact ⟨rfl, rfl⟩

end Go.Proofs.YtnbeebndcgoalaaDoor
