/- The reference implementation's Key: it returns what kyF says. No further condition. -/
import Derived.Test.YtnbeebndcgoalaaDoorRfM
namespace Go.Proofs.YtnbeebndcgoalaaDoor
open Go.RowKit
theorem hiKey (a b c : Int) : (Tryd.prog.info? 28).map (·.size) = some (#[.int .i64 a, .int .i64 b, .int .i64 c] : Array Value).size := by kernel_rfl
theorem oneKey (a b c : Int) : (#[.int .i64 a, .int .i64 b, .int .i64 c] : Array Value).all (·.oneCell') = true := by
  rw [Array.all_eq_true_iff_forall_mem]; intro x hx; simp at hx; rcases hx with rfl | rfl | rfl <;> rfl

set_option maxRecDepth 100000 in
set_option maxHeartbeats 4000000 in
theorem refKey_1 (v : Nat → Int) (t : ByteArray) (w : World) (hk : v 0 = 1) : Calls Tryd.prog 18 #[.agg (factC v t)] w fun e W' => e = .returned (.agg #[.int .i64 1, .int .i64 (v 6), .int .i64 (v 1)]) ∧ Below w.heap.size w W' := by
  go_enter Tryd.func18, Tryd.ntmps18
  go_upto_region 1 with (fail)
  obtain ⟨W0, hW0, f0, r0, b0⟩ := two_rows w (factC v t) #[.int .i64 0, .int .i64 0, .int .i64 0] 23 28
  rw [hW0]
  clear hW0
  obtain ⟨c0, c1, c2, c3, c4, c5, c6, c7, c8, c9, c10, c11, -⟩ := row18 f0
  rw [hk] at c0
  clear c1 c2 c3 c4 c5 c6 c7 c8 c9 c10 c11
  go_upto_region 6 with (fail)
  obtain ⟨d0, d1, d2, d3, d4, d5, d6, d7, d8, d9, d10, d11, d12, d13, d14, d15, -⟩ := row18x f0
  clear c0 d0 d2 d3 d4 d5 d7 d8 d9 d10 d11 d12 d13 d14 d15
  have F0 := Lib.hid f0
  have R0 := Lib.hid r0
  clear f0 r0
  refine wp_region_hl W0 (Hl.refl _) (by kernel_rfl) (by kernel_rfl) ?_
  repeat (first
    | go_big_quiet_skip
    | (go_big_quiet_want; go_big_quiet_op; go_big_quiet_on))
  refine wpQuiet_nil ?_
  intro W1 h1
  clear d6 d1
  obtain ⟨c0, -⟩ := row18 (h1.row F0.out)
  rw [hk] at c0
  have r1 := h1.row R0.out
  have b1 := b0.trans (Below.mono h1 b0.size)
  have R1 := Lib.hid r1
  clear r1
  go_wp2_with (refine wpList_store_row rfl 28 _ _ rfl (w.heap.size + 1) #[.int .i64 1, .int .i64 (v 6), .int .i64 (v 1)] rfl rfl 28 _ R1.out (hiKey _ _ _) rfl (oneKey _ _ _) ?_)
  refine bodyPost_ret (v := .agg #[.int .i64 1, .int .i64 (v 6), .int .i64 (v 1)]) ?_ rfl ?_
  · exact results_cell_row rfl _ _ (w.heap.size + 1) 28 _ (0, 0) _ rfl (setRow_heap _ (w.heap.size + 1) _ _ 28 (0, 0) R1.out) Tryd.underlying28 rfl (hiKey _ _ _)
  · exact ⟨rfl, below_setRow' b1 _ _ (by omega)⟩
set_option maxRecDepth 100000 in
set_option maxHeartbeats 4000000 in
theorem refKey_2 (v : Nat → Int) (t : ByteArray) (w : World) (hk : v 0 = 2) : Calls Tryd.prog 18 #[.agg (factC v t)] w fun e W' => e = .returned (.agg #[.int .i64 2, .int .i64 (v 6), .int .i64 (v 1)]) ∧ Below w.heap.size w W' := by
  go_enter Tryd.func18, Tryd.ntmps18
  go_upto_region 1 with (fail)
  obtain ⟨W0, hW0, f0, r0, b0⟩ := two_rows w (factC v t) #[.int .i64 0, .int .i64 0, .int .i64 0] 23 28
  rw [hW0]
  clear hW0
  obtain ⟨c0, c1, c2, c3, c4, c5, c6, c7, c8, c9, c10, c11, -⟩ := row18 f0
  rw [hk] at c0
  clear c1 c2 c3 c4 c5 c6 c7 c8 c9 c10 c11
  go_upto_region 6 with (fail)
  obtain ⟨d0, d1, d2, d3, d4, d5, d6, d7, d8, d9, d10, d11, d12, d13, d14, d15, -⟩ := row18x f0
  clear c0 d0 d2 d3 d4 d5 d7 d8 d9 d10 d11 d12 d13 d14 d15
  have F0 := Lib.hid f0
  have R0 := Lib.hid r0
  clear f0 r0
  refine wp_region_hl W0 (Hl.refl _) (by kernel_rfl) (by kernel_rfl) ?_
  repeat (first
    | go_big_quiet_skip
    | (go_big_quiet_want; go_big_quiet_op; go_big_quiet_on))
  refine wpQuiet_nil ?_
  intro W1 h1
  clear d6 d1
  obtain ⟨c0, -⟩ := row18 (h1.row F0.out)
  rw [hk] at c0
  have r1 := h1.row R0.out
  have b1 := b0.trans (Below.mono h1 b0.size)
  have R1 := Lib.hid r1
  clear r1
  go_wp2_with (refine wpList_store_row rfl 28 _ _ rfl (w.heap.size + 1) #[.int .i64 2, .int .i64 (v 6), .int .i64 (v 1)] rfl rfl 28 _ R1.out (hiKey _ _ _) rfl (oneKey _ _ _) ?_)
  refine bodyPost_ret (v := .agg #[.int .i64 2, .int .i64 (v 6), .int .i64 (v 1)]) ?_ rfl ?_
  · exact results_cell_row rfl _ _ (w.heap.size + 1) 28 _ (0, 0) _ rfl (setRow_heap _ (w.heap.size + 1) _ _ 28 (0, 0) R1.out) Tryd.underlying28 rfl (hiKey _ _ _)
  · exact ⟨rfl, below_setRow' b1 _ _ (by omega)⟩
set_option maxRecDepth 100000 in
set_option maxHeartbeats 4000000 in
theorem refKey_3 (v : Nat → Int) (t : ByteArray) (w : World) (hk : v 0 = 3) : Calls Tryd.prog 18 #[.agg (factC v t)] w fun e W' => e = .returned (.agg #[.int .i64 3, .int .i64 (v 1), .int .i64 0]) ∧ Below w.heap.size w W' := by
  go_enter Tryd.func18, Tryd.ntmps18
  go_upto_region 1 with (fail)
  obtain ⟨W0, hW0, f0, r0, b0⟩ := two_rows w (factC v t) #[.int .i64 0, .int .i64 0, .int .i64 0] 23 28
  rw [hW0]
  clear hW0
  obtain ⟨c0, c1, c2, c3, c4, c5, c6, c7, c8, c9, c10, c11, -⟩ := row18 f0
  rw [hk] at c0
  have R1 := Lib.hid r0
  clear r0
  go_wp2_with (refine wpList_store_row rfl 28 _ _ rfl (w.heap.size + 1) #[.int .i64 3, .int .i64 (v 1), .int .i64 0] rfl rfl 28 _ R1.out (hiKey _ _ _) rfl (oneKey _ _ _) ?_)
  refine bodyPost_ret (v := .agg #[.int .i64 3, .int .i64 (v 1), .int .i64 0]) ?_ rfl ?_
  · exact results_cell_row rfl _ _ (w.heap.size + 1) 28 _ (0, 0) _ rfl (setRow_heap _ (w.heap.size + 1) _ _ 28 (0, 0) R1.out) Tryd.underlying28 rfl (hiKey _ _ _)
  · exact ⟨rfl, below_setRow' b0 _ _ (by omega)⟩
set_option maxRecDepth 100000 in
set_option maxHeartbeats 4000000 in
theorem refKey_5 (v : Nat → Int) (t : ByteArray) (w : World) (hk : v 0 = 5) : Calls Tryd.prog 18 #[.agg (factC v t)] w fun e W' => e = .returned (.agg #[.int .i64 5, .int .i64 (v 1), .int .i64 0]) ∧ Below w.heap.size w W' := by
  go_enter Tryd.func18, Tryd.ntmps18
  go_upto_region 1 with (fail)
  obtain ⟨W0, hW0, f0, r0, b0⟩ := two_rows w (factC v t) #[.int .i64 0, .int .i64 0, .int .i64 0] 23 28
  rw [hW0]
  clear hW0
  obtain ⟨c0, c1, c2, c3, c4, c5, c6, c7, c8, c9, c10, c11, -⟩ := row18 f0
  rw [hk] at c0
  have R1 := Lib.hid r0
  clear r0
  go_wp2_with (refine wpList_store_row rfl 28 _ _ rfl (w.heap.size + 1) #[.int .i64 5, .int .i64 (v 1), .int .i64 0] rfl rfl 28 _ R1.out (hiKey _ _ _) rfl (oneKey _ _ _) ?_)
  refine bodyPost_ret (v := .agg #[.int .i64 5, .int .i64 (v 1), .int .i64 0]) ?_ rfl ?_
  · exact results_cell_row rfl _ _ (w.heap.size + 1) 28 _ (0, 0) _ rfl (setRow_heap _ (w.heap.size + 1) _ _ 28 (0, 0) R1.out) Tryd.underlying28 rfl (hiKey _ _ _)
  · exact ⟨rfl, below_setRow' b0 _ _ (by omega)⟩
set_option maxRecDepth 100000 in
set_option maxHeartbeats 4000000 in
theorem refKey_8 (v : Nat → Int) (t : ByteArray) (w : World) (hk : v 0 = 8) : Calls Tryd.prog 18 #[.agg (factC v t)] w fun e W' => e = .returned (.agg #[.int .i64 8, .int .i64 (v 1), .int .i64 0]) ∧ Below w.heap.size w W' := by
  go_enter Tryd.func18, Tryd.ntmps18
  go_upto_region 1 with (fail)
  obtain ⟨W0, hW0, f0, r0, b0⟩ := two_rows w (factC v t) #[.int .i64 0, .int .i64 0, .int .i64 0] 23 28
  rw [hW0]
  clear hW0
  obtain ⟨c0, c1, c2, c3, c4, c5, c6, c7, c8, c9, c10, c11, -⟩ := row18 f0
  rw [hk] at c0
  have R1 := Lib.hid r0
  clear r0
  go_wp2_with (refine wpList_store_row rfl 28 _ _ rfl (w.heap.size + 1) #[.int .i64 8, .int .i64 (v 1), .int .i64 0] rfl rfl 28 _ R1.out (hiKey _ _ _) rfl (oneKey _ _ _) ?_)
  refine bodyPost_ret (v := .agg #[.int .i64 8, .int .i64 (v 1), .int .i64 0]) ?_ rfl ?_
  · exact results_cell_row rfl _ _ (w.heap.size + 1) 28 _ (0, 0) _ rfl (setRow_heap _ (w.heap.size + 1) _ _ 28 (0, 0) R1.out) Tryd.underlying28 rfl (hiKey _ _ _)
  · exact ⟨rfl, below_setRow' b0 _ _ (by omega)⟩
set_option maxRecDepth 100000 in
set_option maxHeartbeats 4000000 in
theorem refKey_4 (v : Nat → Int) (t : ByteArray) (w : World) (hk : v 0 = 4) : Calls Tryd.prog 18 #[.agg (factC v t)] w fun e W' => e = .returned (.agg #[.int .i64 4, .int .i64 (v 9), .int .i64 (v 11)]) ∧ Below w.heap.size w W' := by
  go_enter Tryd.func18, Tryd.ntmps18
  go_upto_region 1 with (fail)
  obtain ⟨W0, hW0, f0, r0, b0⟩ := two_rows w (factC v t) #[.int .i64 0, .int .i64 0, .int .i64 0] 23 28
  rw [hW0]
  clear hW0
  obtain ⟨c0, c1, c2, c3, c4, c5, c6, c7, c8, c9, c10, c11, -⟩ := row18 f0
  rw [hk] at c0
  clear c1 c2 c3 c4 c5 c6 c7 c8 c9 c10 c11
  go_upto_region 12 with (fail)
  obtain ⟨d0, d1, d2, d3, d4, d5, d6, d7, d8, d9, d10, d11, d12, d13, d14, d15, -⟩ := row18x f0
  clear c0 d0 d1 d2 d3 d4 d5 d6 d7 d8 d10 d12 d13 d14 d15
  have F0 := Lib.hid f0
  have R0 := Lib.hid r0
  clear f0 r0
  refine wp_region_hl W0 (Hl.refl _) (by kernel_rfl) (by kernel_rfl) ?_
  repeat (first
    | go_big_quiet_skip
    | (go_big_quiet_want; go_big_quiet_op; go_big_quiet_on))
  refine wpQuiet_nil ?_
  intro W1 h1
  clear d9 d11
  obtain ⟨c0, -⟩ := row18 (h1.row F0.out)
  rw [hk] at c0
  have r1 := h1.row R0.out
  have b1 := b0.trans (Below.mono h1 b0.size)
  have R1 := Lib.hid r1
  clear r1
  go_wp2_with (refine wpList_store_row rfl 28 _ _ rfl (w.heap.size + 1) #[.int .i64 4, .int .i64 (v 9), .int .i64 (v 11)] rfl rfl 28 _ R1.out (hiKey _ _ _) rfl (oneKey _ _ _) ?_)
  refine bodyPost_ret (v := .agg #[.int .i64 4, .int .i64 (v 9), .int .i64 (v 11)]) ?_ rfl ?_
  · exact results_cell_row rfl _ _ (w.heap.size + 1) 28 _ (0, 0) _ rfl (setRow_heap _ (w.heap.size + 1) _ _ 28 (0, 0) R1.out) Tryd.underlying28 rfl (hiKey _ _ _)
  · exact ⟨rfl, below_setRow' b1 _ _ (by omega)⟩
set_option maxRecDepth 100000 in
set_option maxHeartbeats 4000000 in
theorem refKey_6 (v : Nat → Int) (t : ByteArray) (w : World) (hk : v 0 = 6) : Calls Tryd.prog 18 #[.agg (factC v t)] w fun e W' => e = .returned (.agg #[.int .i64 6, .int .i64 (v 5), .int .i64 (v 3)]) ∧ Below w.heap.size w W' := by
  go_enter Tryd.func18, Tryd.ntmps18
  go_upto_region 1 with (fail)
  obtain ⟨W0, hW0, f0, r0, b0⟩ := two_rows w (factC v t) #[.int .i64 0, .int .i64 0, .int .i64 0] 23 28
  rw [hW0]
  clear hW0
  obtain ⟨c0, c1, c2, c3, c4, c5, c6, c7, c8, c9, c10, c11, -⟩ := row18 f0
  rw [hk] at c0
  clear c1 c2 c3 c4 c5 c6 c7 c8 c9 c10 c11
  go_upto_region 14 with (fail)
  obtain ⟨d0, d1, d2, d3, d4, d5, d6, d7, d8, d9, d10, d11, d12, d13, d14, d15, -⟩ := row18x f0
  clear c0 d0 d1 d2 d4 d6 d7 d8 d9 d10 d11 d12 d13 d14 d15
  have F0 := Lib.hid f0
  have R0 := Lib.hid r0
  clear f0 r0
  refine wp_region_hl W0 (Hl.refl _) (by kernel_rfl) (by kernel_rfl) ?_
  repeat (first
    | go_big_quiet_skip
    | (go_big_quiet_want; go_big_quiet_op; go_big_quiet_on))
  refine wpQuiet_nil ?_
  intro W1 h1
  clear d5 d3
  obtain ⟨c0, -⟩ := row18 (h1.row F0.out)
  rw [hk] at c0
  have r1 := h1.row R0.out
  have b1 := b0.trans (Below.mono h1 b0.size)
  have R1 := Lib.hid r1
  clear r1
  go_wp2_with (refine wpList_store_row rfl 28 _ _ rfl (w.heap.size + 1) #[.int .i64 6, .int .i64 (v 5), .int .i64 (v 3)] rfl rfl 28 _ R1.out (hiKey _ _ _) rfl (oneKey _ _ _) ?_)
  refine bodyPost_ret (v := .agg #[.int .i64 6, .int .i64 (v 5), .int .i64 (v 3)]) ?_ rfl ?_
  · exact results_cell_row rfl _ _ (w.heap.size + 1) 28 _ (0, 0) _ rfl (setRow_heap _ (w.heap.size + 1) _ _ 28 (0, 0) R1.out) Tryd.underlying28 rfl (hiKey _ _ _)
  · exact ⟨rfl, below_setRow' b1 _ _ (by omega)⟩
set_option maxRecDepth 100000 in
set_option maxHeartbeats 4000000 in
theorem refKey_7 (v : Nat → Int) (t : ByteArray) (w : World) (hk : v 0 = 7) : Calls Tryd.prog 18 #[.agg (factC v t)] w fun e W' => e = .returned (.agg #[.int .i64 7, .int .i64 (v 15), .int .i64 (v 3)]) ∧ Below w.heap.size w W' := by
  go_enter Tryd.func18, Tryd.ntmps18
  go_upto_region 1 with (fail)
  obtain ⟨W0, hW0, f0, r0, b0⟩ := two_rows w (factC v t) #[.int .i64 0, .int .i64 0, .int .i64 0] 23 28
  rw [hW0]
  clear hW0
  obtain ⟨c0, c1, c2, c3, c4, c5, c6, c7, c8, c9, c10, c11, -⟩ := row18 f0
  rw [hk] at c0
  clear c1 c2 c3 c4 c5 c6 c7 c8 c9 c10 c11
  go_upto_region 16 with (fail)
  obtain ⟨d0, d1, d2, d3, d4, d5, d6, d7, d8, d9, d10, d11, d12, d13, d14, d15, -⟩ := row18x f0
  clear c0 d0 d1 d2 d4 d5 d6 d7 d8 d9 d10 d11 d12 d13 d14
  have F0 := Lib.hid f0
  have R0 := Lib.hid r0
  clear f0 r0
  refine wp_region_hl W0 (Hl.refl _) (by kernel_rfl) (by kernel_rfl) ?_
  repeat (first
    | go_big_quiet_skip
    | (go_big_quiet_want; go_big_quiet_op; go_big_quiet_on))
  refine wpQuiet_nil ?_
  intro W1 h1
  clear d15 d3
  obtain ⟨c0, -⟩ := row18 (h1.row F0.out)
  rw [hk] at c0
  have r1 := h1.row R0.out
  have b1 := b0.trans (Below.mono h1 b0.size)
  have R1 := Lib.hid r1
  clear r1
  go_wp2_with (refine wpList_store_row rfl 28 _ _ rfl (w.heap.size + 1) #[.int .i64 7, .int .i64 (v 15), .int .i64 (v 3)] rfl rfl 28 _ R1.out (hiKey _ _ _) rfl (oneKey _ _ _) ?_)
  refine bodyPost_ret (v := .agg #[.int .i64 7, .int .i64 (v 15), .int .i64 (v 3)]) ?_ rfl ?_
  · exact results_cell_row rfl _ _ (w.heap.size + 1) 28 _ (0, 0) _ rfl (setRow_heap _ (w.heap.size + 1) _ _ 28 (0, 0) R1.out) Tryd.underlying28 rfl (hiKey _ _ _)
  · exact ⟨rfl, below_setRow' b1 _ _ (by omega)⟩
set_option maxRecDepth 100000 in
set_option maxHeartbeats 4000000 in
theorem refKey_9 (v : Nat → Int) (t : ByteArray) (w : World) (hk : v 0 = 9) : Calls Tryd.prog 18 #[.agg (factC v t)] w fun e W' => e = .returned (.agg #[.int .i64 9, .int .i64 (v 11), .int .i64 0]) ∧ Below w.heap.size w W' := by
  go_enter Tryd.func18, Tryd.ntmps18
  go_upto_region 1 with (fail)
  obtain ⟨W0, hW0, f0, r0, b0⟩ := two_rows w (factC v t) #[.int .i64 0, .int .i64 0, .int .i64 0] 23 28
  rw [hW0]
  clear hW0
  obtain ⟨c0, c1, c2, c3, c4, c5, c6, c7, c8, c9, c10, c11, -⟩ := row18 f0
  rw [hk] at c0
  have R1 := Lib.hid r0
  clear r0
  go_wp2_with (refine wpList_store_row rfl 28 _ _ rfl (w.heap.size + 1) #[.int .i64 9, .int .i64 (v 11), .int .i64 0] rfl rfl 28 _ R1.out (hiKey _ _ _) rfl (oneKey _ _ _) ?_)
  refine bodyPost_ret (v := .agg #[.int .i64 9, .int .i64 (v 11), .int .i64 0]) ?_ rfl ?_
  · exact results_cell_row rfl _ _ (w.heap.size + 1) 28 _ (0, 0) _ rfl (setRow_heap _ (w.heap.size + 1) _ _ 28 (0, 0) R1.out) Tryd.underlying28 rfl (hiKey _ _ _)
  · exact ⟨rfl, below_setRow' b0 _ _ (by omega)⟩
set_option maxRecDepth 100000 in
set_option maxHeartbeats 4000000 in
theorem refKey_10 (v : Nat → Int) (t : ByteArray) (w : World) (hk : v 0 = 10) : Calls Tryd.prog 18 #[.agg (factC v t)] w fun e W' => e = .returned (.agg #[.int .i64 10, .int .i64 (v 8), .int .i64 (v 11)]) ∧ Below w.heap.size w W' := by
  go_enter Tryd.func18, Tryd.ntmps18
  go_upto_region 1 with (fail)
  obtain ⟨W0, hW0, f0, r0, b0⟩ := two_rows w (factC v t) #[.int .i64 0, .int .i64 0, .int .i64 0] 23 28
  rw [hW0]
  clear hW0
  obtain ⟨c0, c1, c2, c3, c4, c5, c6, c7, c8, c9, c10, c11, -⟩ := row18 f0
  rw [hk] at c0
  clear c1 c2 c3 c4 c5 c6 c7 c8 c9 c10 c11
  go_upto_region 20 with (fail)
  obtain ⟨d0, d1, d2, d3, d4, d5, d6, d7, d8, d9, d10, d11, d12, d13, d14, d15, -⟩ := row18x f0
  clear c0 d0 d1 d2 d3 d4 d5 d6 d7 d9 d10 d12 d13 d14 d15
  have F0 := Lib.hid f0
  have R0 := Lib.hid r0
  clear f0 r0
  refine wp_region_hl W0 (Hl.refl _) (by kernel_rfl) (by kernel_rfl) ?_
  repeat (first
    | go_big_quiet_skip
    | (go_big_quiet_want; go_big_quiet_op; go_big_quiet_on))
  refine wpQuiet_nil ?_
  intro W1 h1
  clear d8 d11
  obtain ⟨c0, -⟩ := row18 (h1.row F0.out)
  rw [hk] at c0
  have r1 := h1.row R0.out
  have b1 := b0.trans (Below.mono h1 b0.size)
  have R1 := Lib.hid r1
  clear r1
  go_wp2_with (refine wpList_store_row rfl 28 _ _ rfl (w.heap.size + 1) #[.int .i64 10, .int .i64 (v 8), .int .i64 (v 11)] rfl rfl 28 _ R1.out (hiKey _ _ _) rfl (oneKey _ _ _) ?_)
  refine bodyPost_ret (v := .agg #[.int .i64 10, .int .i64 (v 8), .int .i64 (v 11)]) ?_ rfl ?_
  · exact results_cell_row rfl _ _ (w.heap.size + 1) 28 _ (0, 0) _ rfl (setRow_heap _ (w.heap.size + 1) _ _ 28 (0, 0) R1.out) Tryd.underlying28 rfl (hiKey _ _ _)
  · exact ⟨rfl, below_setRow' b1 _ _ (by omega)⟩
set_option maxRecDepth 100000 in
set_option maxHeartbeats 4000000 in
theorem refKey_0 (v : Nat → Int) (t : ByteArray) (w : World) (h1 : ¬ v 0 = 1) (h2 : ¬ v 0 = 2) (h3 : ¬ v 0 = 3) (h4 : ¬ v 0 = 4) (h5 : ¬ v 0 = 5) (h6 : ¬ v 0 = 6) (h7 : ¬ v 0 = 7) (h8 : ¬ v 0 = 8) (h9 : ¬ v 0 = 9) (h10 : ¬ v 0 = 10) : Calls Tryd.prog 18 #[.agg (factC v t)] w fun e W' => e = .returned (.agg #[.int .i64 (v 0), .int .i64 0, .int .i64 0]) ∧ Below w.heap.size w W' := by
  go_enter Tryd.func18, Tryd.ntmps18
  go_upto_region 1 with (fail)
  obtain ⟨W0, hW0, f0, r0, b0⟩ := two_rows w (factC v t) #[.int .i64 0, .int .i64 0, .int .i64 0] 23 28
  rw [hW0]
  clear hW0
  obtain ⟨c0, c1, c2, c3, c4, c5, c6, c7, c8, c9, c10, c11, -⟩ := row18 f0
  have R1 := Lib.hid r0
  clear r0
  go_wp2_with (refine wpList_store_row rfl 28 _ _ rfl (w.heap.size + 1) #[.int .i64 (v 0), .int .i64 0, .int .i64 0] rfl rfl 28 _ R1.out (hiKey _ _ _) rfl (oneKey _ _ _) ?_)
  refine bodyPost_ret (v := .agg #[.int .i64 (v 0), .int .i64 0, .int .i64 0]) ?_ rfl ?_
  · exact results_cell_row rfl _ _ (w.heap.size + 1) 28 _ (0, 0) _ rfl (setRow_heap _ (w.heap.size + 1) _ _ 28 (0, 0) R1.out) Tryd.underlying28 rfl (hiKey _ _ _)
  · exact ⟨rfl, below_setRow' b0 _ _ (by omega)⟩
theorem refKey_calls (v : Nat → Int) (t : ByteArray) (w : World) : Calls Tryd.prog 18 #[.agg (factC v t)] w fun e W' => e = .returned (keyV v) ∧ Below w.heap.size w W' := by
  have hc := kind_cases (v 0)
  obtain hk | hk | hk | hk | hk | hk | hk | hk | hk | hk | hk := hc
  · have e : kyF v = (v 6, v 1) := by unfold kyF; simp [hk]
    show Calls _ _ _ _ fun e W' => e = .returned (.agg #[.int .i64 (v 0), .int .i64 (kyF v).1, .int .i64 (kyF v).2]) ∧ _
    rw [e, hk]; exact refKey_1 v t w hk
  · have e : kyF v = (v 6, v 1) := by unfold kyF; simp [hk]
    show Calls _ _ _ _ fun e W' => e = .returned (.agg #[.int .i64 (v 0), .int .i64 (kyF v).1, .int .i64 (kyF v).2]) ∧ _
    rw [e, hk]; exact refKey_2 v t w hk
  · have e : kyF v = (v 1, 0) := by unfold kyF; simp [hk]
    show Calls _ _ _ _ fun e W' => e = .returned (.agg #[.int .i64 (v 0), .int .i64 (kyF v).1, .int .i64 (kyF v).2]) ∧ _
    rw [e, hk]; exact refKey_3 v t w hk
  · have e : kyF v = (v 9, v 11) := by unfold kyF; simp [hk]
    show Calls _ _ _ _ fun e W' => e = .returned (.agg #[.int .i64 (v 0), .int .i64 (kyF v).1, .int .i64 (kyF v).2]) ∧ _
    rw [e, hk]; exact refKey_4 v t w hk
  · have e : kyF v = (v 1, 0) := by unfold kyF; simp [hk]
    show Calls _ _ _ _ fun e W' => e = .returned (.agg #[.int .i64 (v 0), .int .i64 (kyF v).1, .int .i64 (kyF v).2]) ∧ _
    rw [e, hk]; exact refKey_5 v t w hk
  · have e : kyF v = (v 5, v 3) := by unfold kyF; simp [hk]
    show Calls _ _ _ _ fun e W' => e = .returned (.agg #[.int .i64 (v 0), .int .i64 (kyF v).1, .int .i64 (kyF v).2]) ∧ _
    rw [e, hk]; exact refKey_6 v t w hk
  · have e : kyF v = (v 15, v 3) := by unfold kyF; simp [hk]
    show Calls _ _ _ _ fun e W' => e = .returned (.agg #[.int .i64 (v 0), .int .i64 (kyF v).1, .int .i64 (kyF v).2]) ∧ _
    rw [e, hk]; exact refKey_7 v t w hk
  · have e : kyF v = (v 1, 0) := by unfold kyF; simp [hk]
    show Calls _ _ _ _ fun e W' => e = .returned (.agg #[.int .i64 (v 0), .int .i64 (kyF v).1, .int .i64 (kyF v).2]) ∧ _
    rw [e, hk]; exact refKey_8 v t w hk
  · have e : kyF v = (v 11, 0) := by unfold kyF; simp [hk]
    show Calls _ _ _ _ fun e W' => e = .returned (.agg #[.int .i64 (v 0), .int .i64 (kyF v).1, .int .i64 (kyF v).2]) ∧ _
    rw [e, hk]; exact refKey_9 v t w hk
  · have e : kyF v = (v 8, v 11) := by unfold kyF; simp [hk]
    show Calls _ _ _ _ fun e W' => e = .returned (.agg #[.int .i64 (v 0), .int .i64 (kyF v).1, .int .i64 (kyF v).2]) ∧ _
    rw [e, hk]; exact refKey_10 v t w hk
  · have e : kyF v = (0, 0) := by unfold kyF; simp [hk]
    obtain ⟨h1, h2, h3, h4, h5, h6, h7, h8, h9, h10⟩ := hk
    show Calls _ _ _ _ fun e W' => e = .returned (.agg #[.int .i64 (v 0), .int .i64 (kyF v).1, .int .i64 (kyF v).2]) ∧ _
    rw [e]; exact refKey_0 v t w h1 h2 h3 h4 h5 h6 h7 h8 h9 h10
end Go.Proofs.YtnbeebndcgoalaaDoor
