/- Contracts of package fact's about, Key and Same, of the reference implementation's Key, and of the laws' rate, pick and cut. -/
import Derived.Test.YtnbeebndcgoalaaDoorFNum
namespace Go.Proofs.YtnbeebndcgoalaaDoor
open Go.RowKit

set_option maxRecDepth 100000 in
theorem ofDevice_calls (v : Nat → Int) (t : ByteArray) (w : World) : Calls Tryd.prog 47 #[.agg (factC v t)] w fun e W' => e = .returned (.tuple #[.int .i64 (v 6), .int .i64 (v 1)]) ∧ Below w.heap.size w W' := by
  go_enter Tryd.func47, Tryd.ntmps47
  go_wp2_with fail
  go_quiet (fail)
  go_wp2_with fail
  go_ret2
  exact ⟨rfl, below_drewN ((Below.refl _ _).alloc (Nat.le_refl _) _) nq⟩

set_option maxRecDepth 100000 in
theorem ofID_calls (v : Nat → Int) (t : ByteArray) (w : World) : Calls Tryd.prog 48 #[.agg (factC v t)] w fun e W' => e = .returned (.tuple #[.int .i64 (v 1), .int .i64 0]) ∧ Below w.heap.size w W' := by
  go_enter Tryd.func48, Tryd.ntmps48
  go_wp2_with fail
  go_ret2
  exact ⟨rfl, (Below.refl _ _).alloc (Nat.le_refl _) _⟩

set_option maxRecDepth 100000 in
theorem ofHolder_calls (v : Nat → Int) (t : ByteArray) (w : World) : Calls Tryd.prog 49 #[.agg (factC v t)] w fun e W' => e = .returned (.tuple #[.int .i64 (v 9), .int .i64 (v 11)]) ∧ Below w.heap.size w W' := by
  go_enter Tryd.func49, Tryd.ntmps49
  go_wp2_with fail
  go_quiet (fail)
  go_wp2_with fail
  go_ret2
  exact ⟨rfl, below_drewN ((Below.refl _ _).alloc (Nat.le_refl _) _) nq⟩

set_option maxRecDepth 100000 in
theorem ofAccount_calls (v : Nat → Int) (t : ByteArray) (w : World) : Calls Tryd.prog 50 #[.agg (factC v t)] w fun e W' => e = .returned (.tuple #[.int .i64 (v 5), .int .i64 (v 3)]) ∧ Below w.heap.size w W' := by
  go_enter Tryd.func50, Tryd.ntmps50
  go_wp2_with fail
  go_quiet (fail)
  go_wp2_with fail
  go_ret2
  exact ⟨rfl, below_drewN ((Below.refl _ _).alloc (Nat.le_refl _) _) nq⟩

set_option maxRecDepth 100000 in
theorem ofCurrency_calls (v : Nat → Int) (t : ByteArray) (w : World) : Calls Tryd.prog 51 #[.agg (factC v t)] w fun e W' => e = .returned (.tuple #[.int .i64 (v 15), .int .i64 (v 3)]) ∧ Below w.heap.size w W' := by
  go_enter Tryd.func51, Tryd.ntmps51
  go_wp2_with fail
  go_quiet (fail)
  go_wp2_with fail
  go_ret2
  exact ⟨rfl, below_drewN ((Below.refl _ _).alloc (Nat.le_refl _) _) nq⟩

set_option maxRecDepth 100000 in
theorem ofFrom_calls (v : Nat → Int) (t : ByteArray) (w : World) : Calls Tryd.prog 52 #[.agg (factC v t)] w fun e W' => e = .returned (.tuple #[.int .i64 (v 11), .int .i64 0]) ∧ Below w.heap.size w W' := by
  go_enter Tryd.func52, Tryd.ntmps52
  go_wp2_with fail
  go_ret2
  exact ⟨rfl, (Below.refl _ _).alloc (Nat.le_refl _) _⟩

set_option maxRecDepth 100000 in
theorem ofTerritory_calls (v : Nat → Int) (t : ByteArray) (w : World) : Calls Tryd.prog 53 #[.agg (factC v t)] w fun e W' => e = .returned (.tuple #[.int .i64 (v 8), .int .i64 (v 11)]) ∧ Below w.heap.size w W' := by
  go_enter Tryd.func53, Tryd.ntmps53
  go_wp2_with fail
  go_quiet (fail)
  go_wp2_with fail
  go_ret2
  exact ⟨rfl, below_drewN ((Below.refl _ _).alloc (Nat.le_refl _) _) nq⟩

set_option maxRecDepth 100000 in
theorem ofNothing_calls (v : Nat → Int) (t : ByteArray) (w : World) : Calls Tryd.prog 54 #[.agg (factC v t)] w fun e W' => e = .returned (.tuple #[.int .i64 0, .int .i64 0]) ∧ Below w.heap.size w W' := by
  go_enter Tryd.func54, Tryd.ntmps54
  go_wp2_with fail
  go_ret2
  exact ⟨rfl, (Below.refl _ _).alloc (Nat.le_refl _) _⟩


/-- The function that returns the two numbers of a key. -/
def abF (k : Int) : Nat :=
  if k = 1 ∨ k = 2 then 47
  else if k = 3 ∨ k = 5 ∨ k = 8 then 48
  else if k = 4 then 49
  else if k = 6 then 50
  else if k = 7 then 51
  else if k = 9 then 52
  else if k = 10 then 53
  else 54
theorem kind_cases (k : Int) : k = 1 ∨ k = 2 ∨ k = 3 ∨ k = 4 ∨ k = 5 ∨ k = 6 ∨ k = 7 ∨ k = 8 ∨ k = 9 ∨ k = 10 ∨ (¬ k = 1 ∧ ¬ k = 2 ∧ ¬ k = 3 ∧ ¬ k = 4 ∧ ¬ k = 5 ∧ ¬ k = 6 ∧ ¬ k = 7 ∧ ¬ k = 8 ∧ ¬ k = 9 ∧ ¬ k = 10) := by omega
theorem about_calls (k : Int) (w : World) : Calls Tryd.prog 34 #[.int .i64 k] w fun e W' => e = .returned (.func (.func (abF k)) #[] #[]) ∧ w = W' := by
  rcases kind_cases k with rfl | rfl | rfl | rfl | rfl | rfl | rfl | rfl | rfl | rfl | ⟨h1, h2, h3, h4, h5, h6, h7, h8, h9, h10⟩

  · go_enter Tryd.func34, Tryd.ntmps34
    go_wp2_with fail
    go_ret
    exact ⟨rfl, rfl⟩
  · go_enter Tryd.func34, Tryd.ntmps34
    go_wp2_with fail
    go_ret
    exact ⟨rfl, rfl⟩
  · go_enter Tryd.func34, Tryd.ntmps34
    go_wp2_with fail
    go_ret
    exact ⟨rfl, rfl⟩
  · go_enter Tryd.func34, Tryd.ntmps34
    go_wp2_with fail
    go_ret
    exact ⟨rfl, rfl⟩
  · go_enter Tryd.func34, Tryd.ntmps34
    go_wp2_with fail
    go_ret
    exact ⟨rfl, rfl⟩
  · go_enter Tryd.func34, Tryd.ntmps34
    go_wp2_with fail
    go_ret
    exact ⟨rfl, rfl⟩
  · go_enter Tryd.func34, Tryd.ntmps34
    go_wp2_with fail
    go_ret
    exact ⟨rfl, rfl⟩
  · go_enter Tryd.func34, Tryd.ntmps34
    go_wp2_with fail
    go_ret
    exact ⟨rfl, rfl⟩
  · go_enter Tryd.func34, Tryd.ntmps34
    go_wp2_with fail
    go_ret
    exact ⟨rfl, rfl⟩
  · go_enter Tryd.func34, Tryd.ntmps34
    go_wp2_with fail
    go_ret
    exact ⟨rfl, rfl⟩
  · rw [show abF k = 54 by unfold abF; simp [h1, h2, h3, h4, h5, h6, h7, h8, h9, h10]]
    go_enter Tryd.func34, Tryd.ntmps34
    go_wp2_with fail
    go_ret
    exact ⟨rfl, rfl⟩
theorem thing_calls (v : Nat → Int) (t : ByteArray) (w : World) : Calls Tryd.prog (abF (v 0)) #[.agg (factC v t)] w fun e W' => e = .returned (.tuple #[.int .i64 (kyF v).1, .int .i64 (kyF v).2]) ∧ Below w.heap.size w W' := by
  rcases kind_cases (v 0) with h | h | h | h | h | h | h | h | h | h | ⟨h1, h2, h3, h4, h5, h6, h7, h8, h9, h10⟩

  · rw [show abF (v 0) = 47 by rw [h]; rfl, show kyF v = ((v 6), (v 1)) by unfold kyF; rw [h]; rfl]; exact ofDevice_calls v t w
  · rw [show abF (v 0) = 47 by rw [h]; rfl, show kyF v = ((v 6), (v 1)) by unfold kyF; rw [h]; rfl]; exact ofDevice_calls v t w
  · rw [show abF (v 0) = 48 by rw [h]; rfl, show kyF v = ((v 1), 0) by unfold kyF; rw [h]; rfl]; exact ofID_calls v t w
  · rw [show abF (v 0) = 49 by rw [h]; rfl, show kyF v = ((v 9), (v 11)) by unfold kyF; rw [h]; rfl]; exact ofHolder_calls v t w
  · rw [show abF (v 0) = 48 by rw [h]; rfl, show kyF v = ((v 1), 0) by unfold kyF; rw [h]; rfl]; exact ofID_calls v t w
  · rw [show abF (v 0) = 50 by rw [h]; rfl, show kyF v = ((v 5), (v 3)) by unfold kyF; rw [h]; rfl]; exact ofAccount_calls v t w
  · rw [show abF (v 0) = 51 by rw [h]; rfl, show kyF v = ((v 15), (v 3)) by unfold kyF; rw [h]; rfl]; exact ofCurrency_calls v t w
  · rw [show abF (v 0) = 48 by rw [h]; rfl, show kyF v = ((v 1), 0) by unfold kyF; rw [h]; rfl]; exact ofID_calls v t w
  · rw [show abF (v 0) = 52 by rw [h]; rfl, show kyF v = ((v 11), 0) by unfold kyF; rw [h]; rfl]; exact ofFrom_calls v t w
  · rw [show abF (v 0) = 53 by rw [h]; rfl, show kyF v = ((v 8), (v 11)) by unfold kyF; rw [h]; rfl]; exact ofTerritory_calls v t w
  · rw [show abF (v 0) = 54 by unfold abF; simp [h1, h2, h3, h4, h5, h6, h7, h8, h9, h10], show kyF v = (0, 0) by unfold kyF; simp [h1, h2, h3, h4, h5, h6, h7, h8, h9, h10]]; exact ofNothing_calls v t w

theorem abF_cases (k : Int) : abF k = 47 ∨ abF k = 48 ∨ abF k = 49 ∨ abF k = 50 ∨ abF k = 51 ∨ abF k = 52 ∨ abF k = 53 ∨ abF k = 54 := by
  unfold abF
  (repeat' split) <;> simp
theorem callAb (k : Int) (args : Array Value) (w : World) : (callFunc (abF k) args).run Tryd.prog w = .ok (.enter (abF k) args) w := by
  rcases abF_cases k with h | h | h | h | h | h | h | h <;> rw [h]
  · simp [go_sem]
  · simp [go_sem]
  · simp [go_sem]
  · simp [go_sem]
  · simp [go_sem]
  · simp [go_sem]
  · simp [go_sem]
  · simp [go_sem]
end Go.Proofs.YtnbeebndcgoalaaDoor
