/- The contract of package fact's limits, for every kind. -/
import Derived.Test.YtnbeebndcgoalaaDoorFLa
import Derived.Test.YtnbeebndcgoalaaDoorFLb
import Derived.Test.YtnbeebndcgoalaaDoorFLc
namespace Go.Proofs.YtnbeebndcgoalaaDoor
open Go.RowKit
theorem limits_calls (k : Int) (w : World) (hk : Known k) : Calls Tryd.prog 29 #[.int .i64 k] w fun e W' => e = .returned (.map (some (w.heap.size + 5))) ∧ Below w.heap.size w W' ∧ MapAt W' (w.heap.size + 5) (rgL k) := by
  have hc : k = 1 ∨ k = 2 ∨ k = 3 ∨ k = 4 ∨ k = 5 ∨ k = 6 ∨ k = 7 ∨ k = 8 ∨ k = 9 ∨ k = 10 := by unfold Known at hk; omega
  rcases hc with rfl | rfl | rfl | rfl | rfl | rfl | rfl | rfl | rfl | rfl
  · exact limits_1 w
  · exact limits_2 w
  · exact limits_3 w
  · exact limits_4 w
  · exact limits_5 w
  · exact limits_6 w
  · exact limits_7 w
  · exact limits_8 w
  · exact limits_9 w
  · exact limits_10 w
end Go.Proofs.YtnbeebndcgoalaaDoor
