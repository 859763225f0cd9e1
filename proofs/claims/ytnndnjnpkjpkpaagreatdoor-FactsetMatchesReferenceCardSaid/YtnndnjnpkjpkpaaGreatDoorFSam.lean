/- The contracts of package fact's Same and of the laws' rate. -/
import Derived.Test.YtnndnjnpkjpkpaaGreatDoorFNum
import Derived.Deep.Cut
namespace Go.Proofs.YtnndnjnpkjpkpaaGreatDoor
open Go.RowKit
theorem hiFact : (Tryz.prog.info? 40).map (·.size) = some 18 := by kernel_rfl
theorem two_rows (w : World) (c d : Array Value) (s t : TypeId) : ∃ W0, (w.alloc (.cells c s)).alloc (.cells d t) = W0 ∧ W0.heap[w.heap.size]? = some (.cells c s (0, 0)) ∧ W0.heap[w.heap.size + 1]? = some (.cells d t (0, 0)) ∧ Below w.heap.size w W0 :=
  ⟨_, rfl, (((Below.refl _ (w.alloc _)).alloc (Nat.le_refl _) _).block _ (by simp)).trans (heap_new w _), by simpa using heap_new (w.alloc (.cells c s)) _, ((Below.refl _ _).alloc (Nat.le_refl _) _).alloc (by simp) _⟩
theorem one_row (w : World) (c : Array Value) (s : TypeId) : ∃ W0, w.alloc (.cells c s) = W0 ∧ W0.heap[w.heap.size]? = some (.cells c s (0, 0)) ∧ Below w.heap.size w W0 :=
  ⟨_, rfl, heap_new w _, (Below.refl _ _).alloc (Nat.le_refl _) _⟩
theorem runEq (u v : Nat → Int) (s t : ByteArray) (W : World) : (binOp .eql 40 (.agg (factC u s)) (.agg (factC v t))).run Tryz.prog W = .ok (.bool (eqB u v s t)) W := by
  rw [run_eql_struct, eqFact]
  rfl
/-- The laws' rate. -/
def rateV (ver am : Int) : Nat → Int := fun i => if i = 0 then 7 else if i = 15 then 3 else if i = 3 then 5 else if i = 2 then ver else if i = 13 then am else 0
theorem factC_one (v : Nat → Int) (t : ByteArray) : (factC v t).all (·.oneCell') = true := by
  rw [Array.all_eq_true_iff_forall_mem]; intro x hx; simp at hx; rcases hx with rfl | rfl | rfl | rfl | rfl | rfl | rfl | rfl | rfl | rfl | rfl | rfl | rfl | rfl | rfl | rfl | rfl | rfl <;> rfl
theorem hiC (v : Nat → Int) (t : ByteArray) : (Tryz.prog.info? 40).map (·.size) = some (factC v t).size := hiFact
/-- No fact: all fields are zero. -/
abbrev zeroV : Nat → Int := fun _ => 0
/-- A text of at most 2010 bytes. -/
def cutT (t : ByteArray) : ByteArray := t.extract 0 (min t.size 2010)
theorem cutT_size (t : ByteArray) : (cutT t).size ≤ 2010 := by
  show (cutT t).data.toList.length ≤ 2010
  unfold cutT
  rw [Lib.extract_data, List.length_take]; omega
/-- pick, as a number. -/
def pickF (c n : Int) : Int := if c < 0 then (-(c + 1)) % n else c % n
theorem pickF_lt (c n : Int) (h : 1 ≤ n) : 0 ≤ pickF c n ∧ pickF c n < n := by
  unfold pickF
  split
  · exact ⟨Int.emod_nonneg _ (by omega), Int.emod_lt_of_pos _ (by omega)⟩
  · exact ⟨Int.emod_nonneg _ (by omega), Int.emod_lt_of_pos _ (by omega)⟩
end Go.Proofs.YtnndnjnpkjpkpaaGreatDoor
