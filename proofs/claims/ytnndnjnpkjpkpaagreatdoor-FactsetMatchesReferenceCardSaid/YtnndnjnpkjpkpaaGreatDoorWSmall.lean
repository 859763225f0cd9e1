/- Contracts of the small functions of package wire and of the laws: fits, fold, unfold, shift4, pick, Clone. Each for every argument within the stated bounds; shift4 where the table reads as the program lays it. -/
import Derived.Test.YtnndnjnpkjpkpaaGreatDoorWPlain
import Derived.WalkKit
import Derived.WalkSpells
import Derived.WalkLawsBesides
import Derived.Lib.Hide
import Derived.IntWalk
namespace Go.Proofs.YtnndnjnpkjpkpaaGreatDoor
open Go.RowKit
theorem fits_yes (n : Int) (w : World) (h1 : -4611686018427387903 ≤ n) (h2 : n ≤ 4611686018427387903) :
    Calls Tryz.prog 103 #[.int .i64 n] w fun e w' => e = .returned (.bool true) ∧ w = w' := by
  go_enter Tryz.func103, Tryz.ntmps103
  go_wp2
  go_ret
  exact ⟨rfl, rfl⟩
theorem fits_low (n : Int) (w : World) (h1 : n < -4611686018427387903) :
    Calls Tryz.prog 103 #[.int .i64 n] w fun e w' => e = .returned (.bool false) ∧ w = w' := by
  go_enter Tryz.func103, Tryz.ntmps103
  go_wp2
  go_ret
  exact ⟨rfl, rfl⟩
theorem fits_high (n : Int) (w : World) (h1 : 4611686018427387903 < n) :
    Calls Tryz.prog 103 #[.int .i64 n] w fun e w' => e = .returned (.bool false) ∧ w = w' := by
  have hd : decide (n ≤ 4611686018427387903) = false := by simpa using h1
  go_enter Tryz.func103, Tryz.ntmps103
  go_wp2
  go_ret
  exact ⟨rfl, rfl⟩

theorem fold_calls (n : Int) (w : World) (h1 : -4611686018427387903 ≤ n) (h2 : n ≤ 4611686018427387903) :
    Calls Tryz.prog 105 #[.int .i64 n] w fun e w' => e = .returned (.int .i64 ((fold n : Nat) : Int)) ∧ w = w' := by
  by_cases h : n < 0
  · have hf : ((fold n : Nat) : Int) = -2 * n - 1 := by unfold fold; rw [if_pos h]; omega
    rw [hf]; clear hf
    go_enter Tryz.func105, Tryz.ntmps105
    go_wp2
    go_ret
    exact ⟨rfl, rfl⟩
  · have hf : ((fold n : Nat) : Int) = 2 * n := by unfold fold; rw [if_neg h]; omega
    rw [hf]; clear hf
    go_enter Tryz.func105, Tryz.ntmps105
    go_wp2
    go_ret
    exact ⟨rfl, rfl⟩

end Go.Proofs.YtnndnjnpkjpkpaaGreatDoor
