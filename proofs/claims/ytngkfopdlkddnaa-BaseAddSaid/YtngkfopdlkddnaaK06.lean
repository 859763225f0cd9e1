/- The contract of package fact's limits for the kinds 1, 2, 10. | The contract of package fact's limits for the kinds 3, 4, 9. | The contract of package fact's limits for the kinds 5, 6, 7, 8. | The contract of package fact's limits, for every kind. -/
import Derived.Test.YtngkfopdlkddnaaK05
namespace Go.Proofs.Ytngkfopdlkddnaa
open Go.RowKit Go.MapKept
set_option maxRecDepth 100000 in
set_option maxHeartbeats 4000000 in
theorem limits_1 (w : World) : Calls Try.prog 30 #[.int .i64 1] w fun e W' => e = .returned (.map (some (w.heap.size + 5))) ∧ Below w.heap.size w W' ∧ MapAt W' (w.heap.size + 5) (rgL 1) := by
  go_enter Try.func30, Try.ntmps30
  go_upto_region 6 with (fail)
  obtain ⟨W0, hW0, S0, z0⟩ : ∃ W0, (((((w.alloc (.cells #[.int .i64 1, .int .i64 1000000] 71)).alloc (.cells #[.int .i64 0, .int .i64 1199] 71)).alloc (.cells #[.int .i64 0, .int .i64 7] 71)).alloc (.cells #[.int .i64 0, .int .i64 20] 71)).alloc (.cells #[.int .i64 0, .int .i64 2000] 71)) = W0 ∧ Spans w W0 ∧ W0.heap.size = w.heap.size + 5 := ⟨_, rfl, spans_laid w, by simp⟩
  rw [hW0]
  clear hW0
  have HZ := Lib.hid z0
  clear z0
  go_wp2_with (first
    | (with_reducible refine wpList_made rfl rfl w HZ.out S0 ?_; intro w1 hF)
    | (refine wpList_load_row rfl 71 _ rfl w.heap.size rfl _ _ _ _ (Spans.r0 hF.1) Try.underlying71 rfl hiSpan ?_)
    | (refine wpList_load_row rfl 71 _ rfl (w.heap.size + 1) rfl _ _ _ _ (Spans.r1 hF.1) Try.underlying71 rfl hiSpan ?_)
    | (refine wpList_load_row rfl 71 _ rfl (w.heap.size + 2) rfl _ _ _ _ (Spans.r2 hF.1) Try.underlying71 rfl hiSpan ?_)
    | (refine wpList_load_row rfl 71 _ rfl (w.heap.size + 3) rfl _ _ _ _ (Spans.r3 hF.1) Try.underlying71 rfl hiSpan ?_)
    | (refine wpList_load_row rfl 71 _ rfl (w.heap.size + 4) rfl _ _ _ _ (Spans.r4 hF.1) Try.underlying71 rfl hiSpan ?_)
    | (refine wpList_insert_new rfl _ _ _ rfl w _ _ _ _ rfl rfl rfl hF (by rfl) ?_; clear hF; intro w1 hF))
  go_ret
  exact ⟨rfl, hF.1.1, hF.2⟩

set_option maxRecDepth 100000 in
set_option maxHeartbeats 4000000 in
theorem limits_2 (w : World) : Calls Try.prog 30 #[.int .i64 2] w fun e W' => e = .returned (.map (some (w.heap.size + 5))) ∧ Below w.heap.size w W' ∧ MapAt W' (w.heap.size + 5) (rgL 2) := by
  go_enter Try.func30, Try.ntmps30
  go_upto_region 6 with (fail)
  obtain ⟨W0, hW0, S0, z0⟩ : ∃ W0, (((((w.alloc (.cells #[.int .i64 1, .int .i64 1000000] 71)).alloc (.cells #[.int .i64 0, .int .i64 1199] 71)).alloc (.cells #[.int .i64 0, .int .i64 7] 71)).alloc (.cells #[.int .i64 0, .int .i64 20] 71)).alloc (.cells #[.int .i64 0, .int .i64 2000] 71)) = W0 ∧ Spans w W0 ∧ W0.heap.size = w.heap.size + 5 := ⟨_, rfl, spans_laid w, by simp⟩
  rw [hW0]
  clear hW0
  have HZ := Lib.hid z0
  clear z0
  go_wp2_with (first
    | (with_reducible refine wpList_made rfl rfl w HZ.out S0 ?_; intro w1 hF)
    | (refine wpList_load_row rfl 71 _ rfl w.heap.size rfl _ _ _ _ (Spans.r0 hF.1) Try.underlying71 rfl hiSpan ?_)
    | (refine wpList_load_row rfl 71 _ rfl (w.heap.size + 1) rfl _ _ _ _ (Spans.r1 hF.1) Try.underlying71 rfl hiSpan ?_)
    | (refine wpList_load_row rfl 71 _ rfl (w.heap.size + 2) rfl _ _ _ _ (Spans.r2 hF.1) Try.underlying71 rfl hiSpan ?_)
    | (refine wpList_load_row rfl 71 _ rfl (w.heap.size + 3) rfl _ _ _ _ (Spans.r3 hF.1) Try.underlying71 rfl hiSpan ?_)
    | (refine wpList_load_row rfl 71 _ rfl (w.heap.size + 4) rfl _ _ _ _ (Spans.r4 hF.1) Try.underlying71 rfl hiSpan ?_)
    | (refine wpList_insert_new rfl _ _ _ rfl w _ _ _ _ rfl rfl rfl hF (by rfl) ?_; clear hF; intro w1 hF))
  go_ret
  exact ⟨rfl, hF.1.1, hF.2⟩

set_option maxRecDepth 100000 in
set_option maxHeartbeats 4000000 in
theorem limits_10 (w : World) : Calls Try.prog 30 #[.int .i64 10] w fun e W' => e = .returned (.map (some (w.heap.size + 5))) ∧ Below w.heap.size w W' ∧ MapAt W' (w.heap.size + 5) (rgL 10) := by
  go_enter Try.func30, Try.ntmps30
  go_upto_region 6 with (fail)
  obtain ⟨W0, hW0, S0, z0⟩ : ∃ W0, (((((w.alloc (.cells #[.int .i64 1, .int .i64 1000000] 71)).alloc (.cells #[.int .i64 0, .int .i64 1199] 71)).alloc (.cells #[.int .i64 0, .int .i64 7] 71)).alloc (.cells #[.int .i64 0, .int .i64 20] 71)).alloc (.cells #[.int .i64 0, .int .i64 2000] 71)) = W0 ∧ Spans w W0 ∧ W0.heap.size = w.heap.size + 5 := ⟨_, rfl, spans_laid w, by simp⟩
  rw [hW0]
  clear hW0
  have HZ := Lib.hid z0
  clear z0
  go_wp2_with (first
    | (with_reducible refine wpList_made rfl rfl w HZ.out S0 ?_; intro w1 hF)
    | (refine wpList_load_row rfl 71 _ rfl w.heap.size rfl _ _ _ _ (Spans.r0 hF.1) Try.underlying71 rfl hiSpan ?_)
    | (refine wpList_load_row rfl 71 _ rfl (w.heap.size + 1) rfl _ _ _ _ (Spans.r1 hF.1) Try.underlying71 rfl hiSpan ?_)
    | (refine wpList_load_row rfl 71 _ rfl (w.heap.size + 2) rfl _ _ _ _ (Spans.r2 hF.1) Try.underlying71 rfl hiSpan ?_)
    | (refine wpList_load_row rfl 71 _ rfl (w.heap.size + 3) rfl _ _ _ _ (Spans.r3 hF.1) Try.underlying71 rfl hiSpan ?_)
    | (refine wpList_load_row rfl 71 _ rfl (w.heap.size + 4) rfl _ _ _ _ (Spans.r4 hF.1) Try.underlying71 rfl hiSpan ?_)
    | (refine wpList_insert_new rfl _ _ _ rfl w _ _ _ _ rfl rfl rfl hF (by rfl) ?_; clear hF; intro w1 hF))
  go_ret
  exact ⟨rfl, hF.1.1, hF.2⟩

end Go.Proofs.Ytngkfopdlkddnaa
namespace Go.Proofs.Ytngkfopdlkddnaa
open Go.RowKit Go.MapKept
set_option maxRecDepth 100000 in
set_option maxHeartbeats 4000000 in
theorem limits_3 (w : World) : Calls Try.prog 30 #[.int .i64 3] w fun e W' => e = .returned (.map (some (w.heap.size + 5))) ∧ Below w.heap.size w W' ∧ MapAt W' (w.heap.size + 5) (rgL 3) := by
  go_enter Try.func30, Try.ntmps30
  go_upto_region 6 with (fail)
  obtain ⟨W0, hW0, S0, z0⟩ : ∃ W0, (((((w.alloc (.cells #[.int .i64 1, .int .i64 1000000] 71)).alloc (.cells #[.int .i64 0, .int .i64 1199] 71)).alloc (.cells #[.int .i64 0, .int .i64 7] 71)).alloc (.cells #[.int .i64 0, .int .i64 20] 71)).alloc (.cells #[.int .i64 0, .int .i64 2000] 71)) = W0 ∧ Spans w W0 ∧ W0.heap.size = w.heap.size + 5 := ⟨_, rfl, spans_laid w, by simp⟩
  rw [hW0]
  clear hW0
  have HZ := Lib.hid z0
  clear z0
  go_wp2_with (first
    | (with_reducible refine wpList_made rfl rfl w HZ.out S0 ?_; intro w1 hF)
    | (refine wpList_load_row rfl 71 _ rfl w.heap.size rfl _ _ _ _ (Spans.r0 hF.1) Try.underlying71 rfl hiSpan ?_)
    | (refine wpList_load_row rfl 71 _ rfl (w.heap.size + 1) rfl _ _ _ _ (Spans.r1 hF.1) Try.underlying71 rfl hiSpan ?_)
    | (refine wpList_load_row rfl 71 _ rfl (w.heap.size + 2) rfl _ _ _ _ (Spans.r2 hF.1) Try.underlying71 rfl hiSpan ?_)
    | (refine wpList_load_row rfl 71 _ rfl (w.heap.size + 3) rfl _ _ _ _ (Spans.r3 hF.1) Try.underlying71 rfl hiSpan ?_)
    | (refine wpList_load_row rfl 71 _ rfl (w.heap.size + 4) rfl _ _ _ _ (Spans.r4 hF.1) Try.underlying71 rfl hiSpan ?_)
    | (refine wpList_insert_new rfl _ _ _ rfl w _ _ _ _ rfl rfl rfl hF (by rfl) ?_; clear hF; intro w1 hF))
  go_ret
  exact ⟨rfl, hF.1.1, hF.2⟩

set_option maxRecDepth 100000 in
set_option maxHeartbeats 4000000 in
theorem limits_4 (w : World) : Calls Try.prog 30 #[.int .i64 4] w fun e W' => e = .returned (.map (some (w.heap.size + 5))) ∧ Below w.heap.size w W' ∧ MapAt W' (w.heap.size + 5) (rgL 4) := by
  go_enter Try.func30, Try.ntmps30
  go_upto_region 6 with (fail)
  obtain ⟨W0, hW0, S0, z0⟩ : ∃ W0, (((((w.alloc (.cells #[.int .i64 1, .int .i64 1000000] 71)).alloc (.cells #[.int .i64 0, .int .i64 1199] 71)).alloc (.cells #[.int .i64 0, .int .i64 7] 71)).alloc (.cells #[.int .i64 0, .int .i64 20] 71)).alloc (.cells #[.int .i64 0, .int .i64 2000] 71)) = W0 ∧ Spans w W0 ∧ W0.heap.size = w.heap.size + 5 := ⟨_, rfl, spans_laid w, by simp⟩
  rw [hW0]
  clear hW0
  have HZ := Lib.hid z0
  clear z0
  go_wp2_with (first
    | (with_reducible refine wpList_made rfl rfl w HZ.out S0 ?_; intro w1 hF)
    | (refine wpList_load_row rfl 71 _ rfl w.heap.size rfl _ _ _ _ (Spans.r0 hF.1) Try.underlying71 rfl hiSpan ?_)
    | (refine wpList_load_row rfl 71 _ rfl (w.heap.size + 1) rfl _ _ _ _ (Spans.r1 hF.1) Try.underlying71 rfl hiSpan ?_)
    | (refine wpList_load_row rfl 71 _ rfl (w.heap.size + 2) rfl _ _ _ _ (Spans.r2 hF.1) Try.underlying71 rfl hiSpan ?_)
    | (refine wpList_load_row rfl 71 _ rfl (w.heap.size + 3) rfl _ _ _ _ (Spans.r3 hF.1) Try.underlying71 rfl hiSpan ?_)
    | (refine wpList_load_row rfl 71 _ rfl (w.heap.size + 4) rfl _ _ _ _ (Spans.r4 hF.1) Try.underlying71 rfl hiSpan ?_)
    | (refine wpList_insert_new rfl _ _ _ rfl w _ _ _ _ rfl rfl rfl hF (by rfl) ?_; clear hF; intro w1 hF))
  go_ret
  exact ⟨rfl, hF.1.1, hF.2⟩

set_option maxRecDepth 100000 in
set_option maxHeartbeats 4000000 in
theorem limits_9 (w : World) : Calls Try.prog 30 #[.int .i64 9] w fun e W' => e = .returned (.map (some (w.heap.size + 5))) ∧ Below w.heap.size w W' ∧ MapAt W' (w.heap.size + 5) (rgL 9) := by
  go_enter Try.func30, Try.ntmps30
  go_upto_region 6 with (fail)
  obtain ⟨W0, hW0, S0, z0⟩ : ∃ W0, (((((w.alloc (.cells #[.int .i64 1, .int .i64 1000000] 71)).alloc (.cells #[.int .i64 0, .int .i64 1199] 71)).alloc (.cells #[.int .i64 0, .int .i64 7] 71)).alloc (.cells #[.int .i64 0, .int .i64 20] 71)).alloc (.cells #[.int .i64 0, .int .i64 2000] 71)) = W0 ∧ Spans w W0 ∧ W0.heap.size = w.heap.size + 5 := ⟨_, rfl, spans_laid w, by simp⟩
  rw [hW0]
  clear hW0
  have HZ := Lib.hid z0
  clear z0
  go_wp2_with (first
    | (with_reducible refine wpList_made rfl rfl w HZ.out S0 ?_; intro w1 hF)
    | (refine wpList_load_row rfl 71 _ rfl w.heap.size rfl _ _ _ _ (Spans.r0 hF.1) Try.underlying71 rfl hiSpan ?_)
    | (refine wpList_load_row rfl 71 _ rfl (w.heap.size + 1) rfl _ _ _ _ (Spans.r1 hF.1) Try.underlying71 rfl hiSpan ?_)
    | (refine wpList_load_row rfl 71 _ rfl (w.heap.size + 2) rfl _ _ _ _ (Spans.r2 hF.1) Try.underlying71 rfl hiSpan ?_)
    | (refine wpList_load_row rfl 71 _ rfl (w.heap.size + 3) rfl _ _ _ _ (Spans.r3 hF.1) Try.underlying71 rfl hiSpan ?_)
    | (refine wpList_load_row rfl 71 _ rfl (w.heap.size + 4) rfl _ _ _ _ (Spans.r4 hF.1) Try.underlying71 rfl hiSpan ?_)
    | (refine wpList_insert_new rfl _ _ _ rfl w _ _ _ _ rfl rfl rfl hF (by rfl) ?_; clear hF; intro w1 hF))
  go_ret
  exact ⟨rfl, hF.1.1, hF.2⟩

end Go.Proofs.Ytngkfopdlkddnaa
namespace Go.Proofs.Ytngkfopdlkddnaa
open Go.RowKit Go.MapKept
set_option maxRecDepth 100000 in
set_option maxHeartbeats 4000000 in
theorem limits_5 (w : World) : Calls Try.prog 30 #[.int .i64 5] w fun e W' => e = .returned (.map (some (w.heap.size + 5))) ∧ Below w.heap.size w W' ∧ MapAt W' (w.heap.size + 5) (rgL 5) := by
  go_enter Try.func30, Try.ntmps30
  go_upto_region 6 with (fail)
  obtain ⟨W0, hW0, S0, z0⟩ : ∃ W0, (((((w.alloc (.cells #[.int .i64 1, .int .i64 1000000] 71)).alloc (.cells #[.int .i64 0, .int .i64 1199] 71)).alloc (.cells #[.int .i64 0, .int .i64 7] 71)).alloc (.cells #[.int .i64 0, .int .i64 20] 71)).alloc (.cells #[.int .i64 0, .int .i64 2000] 71)) = W0 ∧ Spans w W0 ∧ W0.heap.size = w.heap.size + 5 := ⟨_, rfl, spans_laid w, by simp⟩
  rw [hW0]
  clear hW0
  have HZ := Lib.hid z0
  clear z0
  go_wp2_with (first
    | (with_reducible refine wpList_made rfl rfl w HZ.out S0 ?_; intro w1 hF)
    | (refine wpList_load_row rfl 71 _ rfl w.heap.size rfl _ _ _ _ (Spans.r0 hF.1) Try.underlying71 rfl hiSpan ?_)
    | (refine wpList_load_row rfl 71 _ rfl (w.heap.size + 1) rfl _ _ _ _ (Spans.r1 hF.1) Try.underlying71 rfl hiSpan ?_)
    | (refine wpList_load_row rfl 71 _ rfl (w.heap.size + 2) rfl _ _ _ _ (Spans.r2 hF.1) Try.underlying71 rfl hiSpan ?_)
    | (refine wpList_load_row rfl 71 _ rfl (w.heap.size + 3) rfl _ _ _ _ (Spans.r3 hF.1) Try.underlying71 rfl hiSpan ?_)
    | (refine wpList_load_row rfl 71 _ rfl (w.heap.size + 4) rfl _ _ _ _ (Spans.r4 hF.1) Try.underlying71 rfl hiSpan ?_)
    | (refine wpList_insert_new rfl _ _ _ rfl w _ _ _ _ rfl rfl rfl hF (by rfl) ?_; clear hF; intro w1 hF))
  go_ret
  exact ⟨rfl, hF.1.1, hF.2⟩

set_option maxRecDepth 100000 in
set_option maxHeartbeats 4000000 in
theorem limits_6 (w : World) : Calls Try.prog 30 #[.int .i64 6] w fun e W' => e = .returned (.map (some (w.heap.size + 5))) ∧ Below w.heap.size w W' ∧ MapAt W' (w.heap.size + 5) (rgL 6) := by
  go_enter Try.func30, Try.ntmps30
  go_upto_region 6 with (fail)
  obtain ⟨W0, hW0, S0, z0⟩ : ∃ W0, (((((w.alloc (.cells #[.int .i64 1, .int .i64 1000000] 71)).alloc (.cells #[.int .i64 0, .int .i64 1199] 71)).alloc (.cells #[.int .i64 0, .int .i64 7] 71)).alloc (.cells #[.int .i64 0, .int .i64 20] 71)).alloc (.cells #[.int .i64 0, .int .i64 2000] 71)) = W0 ∧ Spans w W0 ∧ W0.heap.size = w.heap.size + 5 := ⟨_, rfl, spans_laid w, by simp⟩
  rw [hW0]
  clear hW0
  have HZ := Lib.hid z0
  clear z0
  go_wp2_with (first
    | (with_reducible refine wpList_made rfl rfl w HZ.out S0 ?_; intro w1 hF)
    | (refine wpList_load_row rfl 71 _ rfl w.heap.size rfl _ _ _ _ (Spans.r0 hF.1) Try.underlying71 rfl hiSpan ?_)
    | (refine wpList_load_row rfl 71 _ rfl (w.heap.size + 1) rfl _ _ _ _ (Spans.r1 hF.1) Try.underlying71 rfl hiSpan ?_)
    | (refine wpList_load_row rfl 71 _ rfl (w.heap.size + 2) rfl _ _ _ _ (Spans.r2 hF.1) Try.underlying71 rfl hiSpan ?_)
    | (refine wpList_load_row rfl 71 _ rfl (w.heap.size + 3) rfl _ _ _ _ (Spans.r3 hF.1) Try.underlying71 rfl hiSpan ?_)
    | (refine wpList_load_row rfl 71 _ rfl (w.heap.size + 4) rfl _ _ _ _ (Spans.r4 hF.1) Try.underlying71 rfl hiSpan ?_)
    | (refine wpList_insert_new rfl _ _ _ rfl w _ _ _ _ rfl rfl rfl hF (by rfl) ?_; clear hF; intro w1 hF))
  go_ret
  exact ⟨rfl, hF.1.1, hF.2⟩

set_option maxRecDepth 100000 in
set_option maxHeartbeats 4000000 in
theorem limits_7 (w : World) : Calls Try.prog 30 #[.int .i64 7] w fun e W' => e = .returned (.map (some (w.heap.size + 5))) ∧ Below w.heap.size w W' ∧ MapAt W' (w.heap.size + 5) (rgL 7) := by
  go_enter Try.func30, Try.ntmps30
  go_upto_region 6 with (fail)
  obtain ⟨W0, hW0, S0, z0⟩ : ∃ W0, (((((w.alloc (.cells #[.int .i64 1, .int .i64 1000000] 71)).alloc (.cells #[.int .i64 0, .int .i64 1199] 71)).alloc (.cells #[.int .i64 0, .int .i64 7] 71)).alloc (.cells #[.int .i64 0, .int .i64 20] 71)).alloc (.cells #[.int .i64 0, .int .i64 2000] 71)) = W0 ∧ Spans w W0 ∧ W0.heap.size = w.heap.size + 5 := ⟨_, rfl, spans_laid w, by simp⟩
  rw [hW0]
  clear hW0
  have HZ := Lib.hid z0
  clear z0
  go_wp2_with (first
    | (with_reducible refine wpList_made rfl rfl w HZ.out S0 ?_; intro w1 hF)
    | (refine wpList_load_row rfl 71 _ rfl w.heap.size rfl _ _ _ _ (Spans.r0 hF.1) Try.underlying71 rfl hiSpan ?_)
    | (refine wpList_load_row rfl 71 _ rfl (w.heap.size + 1) rfl _ _ _ _ (Spans.r1 hF.1) Try.underlying71 rfl hiSpan ?_)
    | (refine wpList_load_row rfl 71 _ rfl (w.heap.size + 2) rfl _ _ _ _ (Spans.r2 hF.1) Try.underlying71 rfl hiSpan ?_)
    | (refine wpList_load_row rfl 71 _ rfl (w.heap.size + 3) rfl _ _ _ _ (Spans.r3 hF.1) Try.underlying71 rfl hiSpan ?_)
    | (refine wpList_load_row rfl 71 _ rfl (w.heap.size + 4) rfl _ _ _ _ (Spans.r4 hF.1) Try.underlying71 rfl hiSpan ?_)
    | (refine wpList_insert_new rfl _ _ _ rfl w _ _ _ _ rfl rfl rfl hF (by rfl) ?_; clear hF; intro w1 hF))
  go_ret
  exact ⟨rfl, hF.1.1, hF.2⟩

set_option maxRecDepth 100000 in
set_option maxHeartbeats 4000000 in
theorem limits_8 (w : World) : Calls Try.prog 30 #[.int .i64 8] w fun e W' => e = .returned (.map (some (w.heap.size + 5))) ∧ Below w.heap.size w W' ∧ MapAt W' (w.heap.size + 5) (rgL 8) := by
  go_enter Try.func30, Try.ntmps30
  go_upto_region 6 with (fail)
  obtain ⟨W0, hW0, S0, z0⟩ : ∃ W0, (((((w.alloc (.cells #[.int .i64 1, .int .i64 1000000] 71)).alloc (.cells #[.int .i64 0, .int .i64 1199] 71)).alloc (.cells #[.int .i64 0, .int .i64 7] 71)).alloc (.cells #[.int .i64 0, .int .i64 20] 71)).alloc (.cells #[.int .i64 0, .int .i64 2000] 71)) = W0 ∧ Spans w W0 ∧ W0.heap.size = w.heap.size + 5 := ⟨_, rfl, spans_laid w, by simp⟩
  rw [hW0]
  clear hW0
  have HZ := Lib.hid z0
  clear z0
  go_wp2_with (first
    | (with_reducible refine wpList_made rfl rfl w HZ.out S0 ?_; intro w1 hF)
    | (refine wpList_load_row rfl 71 _ rfl w.heap.size rfl _ _ _ _ (Spans.r0 hF.1) Try.underlying71 rfl hiSpan ?_)
    | (refine wpList_load_row rfl 71 _ rfl (w.heap.size + 1) rfl _ _ _ _ (Spans.r1 hF.1) Try.underlying71 rfl hiSpan ?_)
    | (refine wpList_load_row rfl 71 _ rfl (w.heap.size + 2) rfl _ _ _ _ (Spans.r2 hF.1) Try.underlying71 rfl hiSpan ?_)
    | (refine wpList_load_row rfl 71 _ rfl (w.heap.size + 3) rfl _ _ _ _ (Spans.r3 hF.1) Try.underlying71 rfl hiSpan ?_)
    | (refine wpList_load_row rfl 71 _ rfl (w.heap.size + 4) rfl _ _ _ _ (Spans.r4 hF.1) Try.underlying71 rfl hiSpan ?_)
    | (refine wpList_insert_new rfl _ _ _ rfl w _ _ _ _ rfl rfl rfl hF (by rfl) ?_; clear hF; intro w1 hF))
  go_ret
  exact ⟨rfl, hF.1.1, hF.2⟩

end Go.Proofs.Ytngkfopdlkddnaa
namespace Go.Proofs.Ytngkfopdlkddnaa
open Go.RowKit
theorem limits_calls (k : Int) (w : World) (hk : Known k) : Calls Try.prog 30 #[.int .i64 k] w fun e W' => e = .returned (.map (some (w.heap.size + 5))) ∧ Below w.heap.size w W' ∧ MapAt W' (w.heap.size + 5) (rgL k) := by
  have hc : k = 1 ∨ k = 2 ∨ k = 3 ∨ k = 4 ∨ k = 5 ∨ k = 6 ∨ k = 7 ∨ k = 8 ∨ k = 9 ∨ k = 10 := by unfold Known at hk; omega
  rcases hc with rfl | rfl | rfl | rfl | rfl | rfl | rfl | rfl | rfl | rfl
  · exact limits_1 w
  · exact limits_2 w
  · exact limits_3 w
  · exact limits_4 w
  · exact limits_5 w
  · exact limits_6 w
  · exact limits_7 w
  · exact limits_8 w
  · exact limits_9 w
  · exact limits_10 w
end Go.Proofs.Ytngkfopdlkddnaa
