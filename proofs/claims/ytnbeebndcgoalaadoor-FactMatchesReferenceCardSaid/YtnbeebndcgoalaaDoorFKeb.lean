/- The contract of package fact's Key. -/
import Derived.Test.YtnbeebndcgoalaaDoorFKey
import Derived.Test.YtnbeebndcgoalaaDoorFSam
namespace Go.Proofs.YtnbeebndcgoalaaDoor
open Go.RowKit
/-- A key as a value. -/
abbrev keyV (v : Nat → Int) : Value := .agg #[.int .i64 (v 0), .int .i64 (kyF v).1, .int .i64 (kyF v).2]
set_option maxRecDepth 100000 in
set_option maxHeartbeats 4000000 in
theorem Key_calls (v : Nat → Int) (t : ByteArray) (w : World) : Calls Tryd.prog 17 #[.agg (factC v t)] w fun e W' => e = .returned (keyV v) ∧ Below w.heap.size w W' := by
  have HT := Lib.hid (fun W => thing_calls v t W)
  have HA := Lib.hid (fun W => about_calls (v 0) W)
  have hcall := callAb (v 0)
  generalize abF (v 0) = g at *
  change Calls _ _ _ _ (fun e W' => e = .returned (.agg #[.int .i64 (v 0), .int .i64 (kyF v).1, .int .i64 (kyF v).2]) ∧ Below w.heap.size w W')
  generalize kyF v = ky at *
  obtain ⟨k1, k2⟩ := ky
  go_enter Tryd.func17, Tryd.ntmps17
  go_wp2_with fail
  obtain ⟨W0, hW0, f0, f1, b0⟩ : ∃ W0, (w.alloc (.cells (factC v t) 23)).alloc (.cells #[.int .i64 0, .int .i64 0, .int .i64 0] 28) = W0 ∧ W0.heap[w.heap.size]? = some (.cells (factC v t) 23 (0, 0)) ∧ W0.heap[w.heap.size + 1]? = some (.cells #[.int .i64 0, .int .i64 0, .int .i64 0] 28 (0, 0)) ∧ Below w.heap.size w W0 :=
    ⟨_, rfl, (((Below.refl _ (w.alloc _)).alloc (Nat.le_refl _) _).block _ (by simp)).trans (heap_new w _), by simpa using heap_new (w.alloc (.cells (factC v t) 23)) _, ((Below.refl _ _).alloc (Nat.le_refl _) _).alloc (by simp) _⟩
  rw [hW0]
  clear hW0
  obtain ⟨c0, c1, c2, c3, c4, c5, c6, c7, c8, c9, c10, c11, c12, c13, c14, c15, c16, c17⟩ := row18x f0
  have F0 := Lib.hid f0
  have F1 := Lib.hid f1
  clear f0 f1
  refine wp_region_hl W0 (Hl.refl _) (by kernel_rfl) (by kernel_rfl) ?_
  repeat (first
    | go_big_quiet_skip
    | (go_big_quiet_want; go_big_quiet_op; first
      | go_big_quiet_on
      | (apply Exists.intro; refine ⟨fun _ => hl_same (HA.out _), ?_⟩; go_big_quiet_on)
      | (apply Exists.intro; refine ⟨fun _ => hl_call (HT.out _), ?_⟩; go_big_quiet_on)))
  refine wpQuiet_nil ?_
  intro W1 h1
  have F1' := Lib.hid (h1.row F1.out)
  have bW := b0.trans (Below.mono h1 b0.size)
  clear c0 c1 c2 c3 c4 c5 c6 c7 c8 c9 c10 c11 c12 c13 c14 c15 c16 c17
  obtain ⟨c0, -⟩ := row18 (h1.row F0.out)
  have hi : (Tryd.prog.info? 28).map (·.size) = some (#[.int .i64 (v 0), .int .i64 k1, .int .i64 k2] : Array Value).size := by kernel_rfl
  have hone : (#[.int .i64 (v 0), .int .i64 k1, .int .i64 k2] : Array Value).all (·.oneCell') = true := by
    rw [Array.all_eq_true_iff_forall_mem]; intro x hx; simp at hx; rcases hx with rfl | rfl | rfl <;> rfl
  go_wp2_with (refine wpList_store_row rfl 28 _ _ rfl (w.heap.size + 1) #[.int .i64 (v 0), .int .i64 k1, .int .i64 k2] rfl rfl 28 _ F1'.out hi rfl hone ?_)
  refine bodyPost_ret (v := .agg #[.int .i64 (v 0), .int .i64 k1, .int .i64 k2]) ?_ rfl ?_
  · exact results_cell_row rfl _ _ (w.heap.size + 1) 28 _ (0, 0) _ rfl (setRow_heap W1 (w.heap.size + 1) _ _ 28 (0, 0) F1'.out) Tryd.underlying28 rfl hi
  · exact ⟨rfl, below_setRow' bW _ _ (by omega)⟩

end Go.Proofs.YtnbeebndcgoalaaDoor
