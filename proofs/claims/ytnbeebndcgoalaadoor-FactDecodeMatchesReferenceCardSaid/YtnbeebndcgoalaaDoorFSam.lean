/- The contracts of package fact's Same and of the laws' rate. -/
import Derived.Test.YtnbeebndcgoalaaDoorFNum
import Derived.Deep.Cut
namespace Go.Proofs.YtnbeebndcgoalaaDoor
open Go.RowKit
theorem hiFact : (Tryd.prog.info? 23).map (·.size) = some 18 := by kernel_rfl
theorem two_rows (w : World) (c d : Array Value) (s t : TypeId) : ∃ W0, (w.alloc (.cells c s)).alloc (.cells d t) = W0 ∧ W0.heap[w.heap.size]? = some (.cells c s (0, 0)) ∧ W0.heap[w.heap.size + 1]? = some (.cells d t (0, 0)) ∧ Below w.heap.size w W0 :=
  ⟨_, rfl, (((Below.refl _ (w.alloc _)).alloc (Nat.le_refl _) _).block _ (by simp)).trans (heap_new w _), by simpa using heap_new (w.alloc (.cells c s)) _, ((Below.refl _ _).alloc (Nat.le_refl _) _).alloc (by simp) _⟩
theorem one_row (w : World) (c : Array Value) (s : TypeId) : ∃ W0, w.alloc (.cells c s) = W0 ∧ W0.heap[w.heap.size]? = some (.cells c s (0, 0)) ∧ Below w.heap.size w W0 :=
  ⟨_, rfl, heap_new w _, (Below.refl _ _).alloc (Nat.le_refl _) _⟩
theorem runEq (u v : Nat → Int) (s t : ByteArray) (W : World) : (binOp .eql 23 (.agg (factC u s)) (.agg (factC v t))).run Tryd.prog W = .ok (.bool (eqB u v s t)) W := by
  rw [run_eql_struct, eqFact]
  rfl
set_option maxRecDepth 100000 in
theorem Same_calls (u v : Nat → Int) (s t : ByteArray) (w : World) : Calls Tryd.prog 16 #[.agg (factC u s), .agg (factC v t)] w fun e W' => e = .returned (.bool (eqB u v s t)) ∧ Below w.heap.size w W' := by
  have hq := fun W => runEq u v s t W
  go_enter Tryd.func16, Tryd.ntmps16
  go_upto_region 1 with (fail)
  obtain ⟨W0, hW0, f0, f1, b0⟩ := two_rows w (factC u s) (factC v t) 23 23
  rw [hW0]
  clear hW0
  have F0 := Lib.hid f0
  have F1 := Lib.hid f1
  clear f0 f1
  go_wp2_with (first
    | (refine wpList_load_row rfl 23 _ rfl w.heap.size rfl _ _ _ _ F0.out Tryd.underlying23 rfl hiFact ?_)
    | (refine wpList_load_row rfl 23 _ rfl (w.heap.size + 1) rfl _ _ _ _ F1.out Tryd.underlying23 rfl hiFact ?_))
  go_ret
  exact ⟨rfl, b0⟩
/-- The laws' rate. -/
def rateV (ver am : Int) : Nat → Int := fun i => if i = 0 then 7 else if i = 15 then 3 else if i = 3 then 5 else if i = 2 then ver else if i = 13 then am else 0
theorem factC_one (v : Nat → Int) (t : ByteArray) : (factC v t).all (·.oneCell') = true := by
  rw [Array.all_eq_true_iff_forall_mem]; intro x hx; simp at hx; rcases hx with rfl | rfl | rfl | rfl | rfl | rfl | rfl | rfl | rfl | rfl | rfl | rfl | rfl | rfl | rfl | rfl | rfl | rfl <;> rfl
theorem hiC (v : Nat → Int) (t : ByteArray) : (Tryd.prog.info? 23).map (·.size) = some (factC v t).size := hiFact
/-- No fact: all fields are zero. -/
abbrev zeroV : Nat → Int := fun _ => 0
set_option maxRecDepth 100000 in
theorem rate_calls (ver am : Int) (w : World) : Calls Tryd.prog 28 #[.int .i64 ver, .int .i64 am] w fun e W' => e = .returned (.agg (factC (rateV ver am) ⟨#[]⟩)) ∧ Below w.heap.size w W' := by
  have hone := factC_one (rateV ver am) ⟨#[]⟩
  go_enter Tryd.func28, Tryd.ntmps28
  go_upto_region 1 with (fail)
  obtain ⟨W0, hW0, f0, b0⟩ := one_row w (factC zeroV ⟨#[]⟩) 23
  rw [hW0]
  clear hW0
  have F0 := Lib.hid f0
  clear f0
  go_wp2_with (refine wpList_store_row rfl 23 _ _ rfl w.heap.size (factC (rateV ver am) ⟨#[]⟩) rfl rfl 23 _ F0.out (hiC _ _) rfl hone ?_)
  refine bodyPost_ret (v := .agg (factC (rateV ver am) ⟨#[]⟩)) ?_ rfl ?_
  · exact results_cell_row rfl _ _ w.heap.size 23 _ (0, 0) _ rfl (setRow_heap W0 w.heap.size _ _ 23 (0, 0) F0.out) Tryd.underlying23 rfl (hiC _ _)
  · exact ⟨rfl, below_setRow' b0 _ _ (Nat.le_refl _)⟩

/-- A text of at most 2010 bytes. -/
def cutT (t : ByteArray) : ByteArray := t.extract 0 (min t.size 2010)
theorem cutT_size (t : ByteArray) : (cutT t).size ≤ 2010 := by
  show (cutT t).data.toList.length ≤ 2010
  unfold cutT
  rw [Lib.extract_data, List.length_take]; omega
set_option maxRecDepth 100000 in
theorem cut_calls (v : Nat → Int) (t : ByteArray) (w : World) (ht : t.size ≤ 9223372036854775807) : Calls Tryd.prog 13 #[.agg (factC v t)] w fun e W' => e = .returned (.agg (factC v (cutT t))) ∧ Below w.heap.size w W' := by
  have hone := factC_one v (cutT t)
  have hcut : cutT t = t.extract 0 (min t.size 2010) := rfl
  have Hc := Lib.hid hcut
  clear hcut
  go_enter Tryd.func13, Tryd.ntmps13
  go_upto_region 1 with (fail)
  obtain ⟨W0, hW0, f0, f1, b0⟩ := two_rows w (factC v t) (factC zeroV ⟨#[]⟩) 23 23
  rw [hW0]
  clear hW0
  have c17 : W0.cell? ⟨w.heap.size, 17, none⟩ = some (.string t) := by rw [cell_of_row _ _ _ _ _ _ f0]; rfl
  have z17 : W0.frozen? ⟨w.heap.size, 17, none⟩ = false := frozen_of_row _ _ _ _ _ f0
  go_upto_region 2 with (fail)
  have hv : t.extract 0 (min (t.size : Int) 2010).toNat = cutT t := by rw [Hc.out]; congr 1; omega
  rw [hv]
  obtain ⟨W1, hW1, g0, g1, b1⟩ : ∃ W1, W0.setCell ⟨w.heap.size, 17, none⟩ (.string (cutT t)) = W1 ∧ W1.heap[w.heap.size]? = some (.cells (factC v (cutT t)) 23 (0, 0)) ∧
      W1.heap[w.heap.size + 1]? = some (.cells (factC zeroV ⟨#[]⟩) 23 (0, 0)) ∧ Below w.heap.size w W1 :=
    ⟨_, rfl, by rw [heap_setCell_same _ _ _ _ _ _ f0]; rfl, (heap_setCell_other _ _ _ _ (by simp)).trans f1, b0.setCell (by simp) _⟩
  rw [hW1]
  clear hW1 f0 f1 c17 z17 b0
  have G0 := Lib.hid g0
  have G1 := Lib.hid g1
  clear g0 g1
  go_wp2_with (first
    | (refine wpList_load_row rfl 23 _ rfl w.heap.size rfl _ _ _ _ G0.out Tryd.underlying23 rfl (hiC _ _) ?_)
    | (refine wpList_store_row rfl 23 _ _ rfl (w.heap.size + 1) (factC v (cutT t)) rfl rfl 23 _ G1.out (hiC _ _) rfl hone ?_))
  refine bodyPost_ret (v := .agg (factC v (cutT t))) ?_ rfl ?_
  · exact results_cell_row rfl _ _ (w.heap.size + 1) 23 _ (0, 0) _ rfl (setRow_heap W1 (w.heap.size + 1) _ _ 23 (0, 0) G1.out) Tryd.underlying23 rfl (hiC _ _)
  · exact ⟨rfl, below_setRow' b1 _ _ (by omega)⟩

/-- pick, as a number. -/
def pickF (c n : Int) : Int := if c < 0 then (-(c + 1)) % n else c % n
theorem pickF_lt (c n : Int) (h : 1 ≤ n) : 0 ≤ pickF c n ∧ pickF c n < n := by
  unfold pickF
  split
  · exact ⟨Int.emod_nonneg _ (by omega), Int.emod_lt_of_pos _ (by omega)⟩
  · exact ⟨Int.emod_nonneg _ (by omega), Int.emod_lt_of_pos _ (by omega)⟩
theorem pick_calls (c n : Int) (w : World) (h0 : -9223372036854775808 ≤ c) (h1 : c ≤ 9223372036854775807) (h2 : 1 ≤ n) (h3 : n ≤ 9223372036854775807) :
    Calls Tryd.prog 27 #[.int .i64 c, .int .i64 n] w fun e w' => e = .returned (.int .i64 (pickF c n)) ∧ w = w' := by
  by_cases h : c < 0
  · have hf : pickF c n = (-(c + 1)) % n := by unfold pickF; rw [if_pos h]
    rw [hf]; clear hf
    go_enter Tryd.func27, Tryd.ntmps27
    go_wp2
    go_ret
    refine ⟨?_, rfl⟩
    have hp : (-(c + 1)) % n = -((c + 1).tmod n) := by rw [← Int.neg_tmod, Int.tmod_eq_emod_of_nonneg (by omega)]
    rw [hp]; rfl
  · have hf : pickF c n = c % n := by unfold pickF; rw [if_neg h]
    rw [hf]; clear hf
    go_enter Tryd.func27, Tryd.ntmps27
    go_wp2
    go_ret
    exact ⟨rfl, rfl⟩
end Go.Proofs.YtnbeebndcgoalaaDoor
