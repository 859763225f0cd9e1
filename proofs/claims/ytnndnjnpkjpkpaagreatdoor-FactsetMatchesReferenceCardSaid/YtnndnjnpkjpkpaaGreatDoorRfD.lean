/- The reference implementation's fields and rest, for kinds 6, 7, 8: the fact with the fields of its kind alone, and whether they are as they must be. No further condition. -/
import Derived.Test.YtnndnjnpkjpkpaaGreatDoorRfA
import Derived.Test.YtnndnjnpkjpkpaaGreatDoorMix
import Derived.Deep.RegionHeld3
namespace Go.Proofs.YtnndnjnpkjpkpaaGreatDoor
open Go.RowKit

set_option maxRecDepth 100000 in
set_option maxHeartbeats 8000000 in
theorem rest_6 (v : Nat → Int) (t : ByteArray) (w : World) (hk : v 0 = 6) :
    Calls Tryz.prog 67 #[.agg (factC v t), .agg (factC (baseK 6 (v 2)) ⟨#[]⟩)] w fun e W' => e = .returned (.tuple #[.agg (factC (keepV v) (keepT v t)), .bool (inB (v 5) 1 1000000 && inB (v 3) 0 1199 && inB (v 8) 0 7 && inB (v 13) 0 1000000000 && inB (v 15) 0 20)]) ∧ Below w.heap.size w W' := by
  have H0 := Lib.hid (fun W => id_calls (v 5) W)
  generalize inB (v 5) 1 1000000 = e0 at *
  have H1 := Lib.hid (fun W => period_calls (v 3) W)
  generalize inB (v 3) 0 1199 = e1 at *
  have H2 := Lib.hid (fun W => territory_calls (v 8) W)
  generalize inB (v 8) 0 7 = e2 at *
  have H3 := Lib.hid (fun W => within_calls (v 13) 0 1000000000 W)
  generalize inB (v 13) 0 1000000000 = e3 at *
  have H4 := Lib.hid (fun W => within_calls (v 15) 0 20 W)
  generalize inB (v 15) 0 20 = e4 at *
  go_enter Tryz.func67, Tryz.ntmps67
  go_upto_region 1 with (fail)
  obtain ⟨W0, hW0, f0, g0, r0, b0⟩ := three_rows w (factC v t) (factC (baseK 6 (v 2)) ⟨#[]⟩) (factC zeroV ⟨#[]⟩) 40 40 40
  rw [hW0]
  clear hW0
  have F0 := Lib.hid f0
  have G0 := Lib.hid g0
  have R0 := Lib.hid r0
  have B0 := Lib.hid b0
  clear f0 g0 r0 b0
  obtain ⟨c0, -⟩ := row18 F0.out
  rw [hk] at c0
  go_upto_region 3 with (first
      | (refine wpList_load_fact rfl _ rfl w.heap.size rfl v t F0.out ?_)
      | (refine wpList_load_fact rfl _ rfl (w.heap.size + 1) rfl (baseK 6 (v 2)) ⟨#[]⟩ G0.out ?_)
      | (refine wpList_load_fact rfl _ rfl (w.heap.size + 2) rfl zeroV ⟨#[]⟩ R0.out ?_))
  clear c0
  obtain ⟨-, -, -, d3, -, d5, -, -, d8, -, -, -, -, d13, -, d15, -⟩ := row18 F0.out
  obtain ⟨-, -, -, c3, -, c5, -, -, c8, -, -, -, -, c13, -, c15, -⟩ := row18 G0.out
  have z5 : W0.frozen? ⟨(w.heap.size + 1), 5, none⟩ = false := frozen_of_row _ _ _ _ _ G0.out
  have z3 : W0.frozen? ⟨(w.heap.size + 1), 3, none⟩ = false := frozen_of_row _ _ _ _ _ G0.out
  have z8 : W0.frozen? ⟨(w.heap.size + 1), 8, none⟩ = false := frozen_of_row _ _ _ _ _ G0.out
  have z13 : W0.frozen? ⟨(w.heap.size + 1), 13, none⟩ = false := frozen_of_row _ _ _ _ _ G0.out
  have z15 : W0.frozen? ⟨(w.heap.size + 1), 15, none⟩ = false := frozen_of_row _ _ _ _ _ G0.out
  go_region_held3 (fun w' => w'.cell? ⟨w.heap.size, 5, none⟩ = some (.int .i64 (v 5)) ∧ w'.cell? ⟨w.heap.size, 3, none⟩ = some (.int .i64 (v 3)) ∧ w'.cell? ⟨w.heap.size, 8, none⟩ = some (.int .i64 (v 8)) ∧ w'.cell? ⟨w.heap.size, 13, none⟩ = some (.int .i64 (v 13)) ∧ w'.cell? ⟨w.heap.size, 15, none⟩ = some (.int .i64 (v 15))) (go_keep) (fail)
  go_upto_region 4 with (first
      | (refine wpList_load_fact rfl _ rfl w.heap.size rfl v t F0.out ?_)
      | (refine wpList_load_fact rfl _ rfl (w.heap.size + 1) rfl (baseK 6 (v 2)) ⟨#[]⟩ G0.out ?_)
      | (refine wpList_load_fact rfl _ rfl (w.heap.size + 2) rfl zeroV ⟨#[]⟩ R0.out ?_))
  obtain ⟨W1, hW1, F1, G1, R1, B1⟩ : ∃ W1, (((((W0.setCell ⟨(w.heap.size + 1), 5, none⟩ (.int .i64 (v 5))).setCell ⟨(w.heap.size + 1), 3, none⟩ (.int .i64 (v 3))).setCell ⟨(w.heap.size + 1), 8, none⟩ (.int .i64 (v 8))).setCell ⟨(w.heap.size + 1), 13, none⟩ (.int .i64 (v 13))).setCell ⟨(w.heap.size + 1), 15, none⟩ (.int .i64 (v 15))) = W1 ∧ Hid (W1.heap[w.heap.size]? = some (.cells (factC v t) 40 (0, 0))) ∧ Hid (W1.heap[(w.heap.size + 1)]? = some (.cells (factC (setF (setF (setF (setF (setF (baseK 6 (v 2)) 5 (v 5)) 3 (v 3)) 8 (v 8)) 13 (v 13)) 15 (v 15)) ⟨#[]⟩) 40 (0, 0))) ∧ Hid (W1.heap[(w.heap.size + 2)]? = some (.cells (factC zeroV ⟨#[]⟩) 40 (0, 0))) ∧ Hid (Below w.heap.size w W1) :=
    ⟨_, rfl, Lib.hid (other_cell 15 _ (by omega) (other_cell 13 _ (by omega) (other_cell 8 _ (by omega) (other_cell 3 _ (by omega) (other_cell 5 _ (by omega) F0.out))))), Lib.hid (setF_cell 15 (v 15) (by omega) (setF_cell 13 (v 13) (by omega) (setF_cell 8 (v 8) (by omega) (setF_cell 3 (v 3) (by omega) (setF_cell 5 (v 5) (by omega) G0.out))))), Lib.hid (other_cell 15 _ (by omega) (other_cell 13 _ (by omega) (other_cell 8 _ (by omega) (other_cell 3 _ (by omega) (other_cell 5 _ (by omega) R0.out))))), Lib.hid (((((B0.out.setCell (p := ⟨(w.heap.size + 1), 5, none⟩) (show w.heap.size ≤ (w.heap.size + 1) by omega) _).setCell (p := ⟨(w.heap.size + 1), 3, none⟩) (show w.heap.size ≤ (w.heap.size + 1) by omega) _).setCell (p := ⟨(w.heap.size + 1), 8, none⟩) (show w.heap.size ≤ (w.heap.size + 1) by omega) _).setCell (p := ⟨(w.heap.size + 1), 13, none⟩) (show w.heap.size ≤ (w.heap.size + 1) by omega) _).setCell (p := ⟨(w.heap.size + 1), 15, none⟩) (show w.heap.size ≤ (w.heap.size + 1) by omega) _)⟩
  rw [hW1]
  clear hW1 F0 G0 R0 B0
  clear c5 z5 d5 c3 z3 d3 c8 z8 d8 c13 z13 d13 c15 z15 d15
  have hkeep := keep_6 v t hk
  rw [hkeep] at G1
  clear hkeep hk
  have hone := factC_one (keepV v) (keepT v t)
  rcases e0 with _ | _
  · refine wp_region_mix (fun w' => w'.heap[w.heap.size]? = some (.cells (factC v t) 40 (0, 0)) ∧ w'.heap[(w.heap.size + 1)]? = some (.cells (factC (keepV v) (keepT v t)) 40 (0, 0))) [true, true, true, true, true, true, true, true, true, true, true, true, true, true, true, true, true, true, true, true, true, true, true, true, false, true] (by kernel_rfl) (by kernel_rfl) ⟨F1.out, G1.out⟩ ?_
    refine mix_load_fact (by rfl) _ rfl (w.heap.size + 1) rfl (keepV v) (keepT v t) (fun _ hc => hc.2) ?_
    simp only [Act.put, List.setIfInBounds_toArray, List.set_cons_zero, List.set_cons_succ]
    refine mix_val (.pointer (some ⟨w.heap.size, 5, none⟩)) (by rfl) (fun _ _ => by go_simp) ?_
    simp only [Act.put, List.setIfInBounds_toArray, List.set_cons_zero, List.set_cons_succ]
    refine mix_load_int (by rfl) _ rfl ⟨w.heap.size, 5, none⟩ rfl (.int .i64 (v 5)) (fun _ hc => fact_cell 5 (by decide) hc.1) ?_
    simp only [Act.put, List.setIfInBounds_toArray, List.set_cons_zero, List.set_cons_succ]
    refine mix_call 64 #[.int .i64 (v 5)] (.bool false) (by rfl) (fun _ => by go_simp) H0.out ?_
    simp only [Act.put, List.setIfInBounds_toArray, List.set_cons_zero, List.set_cons_succ]
    refine mix_val (.bool false) (by rfl) (fun _ _ => by rfl) ?_
    simp only [Act.put, List.setIfInBounds_toArray, List.set_cons_zero, List.set_cons_succ]
    refine mix_off (by rfl) ?_
    simp only [Act.put, List.setIfInBounds_toArray, List.set_cons_zero, List.set_cons_succ]
    refine mix_off (by rfl) ?_
    simp only [Act.put, List.setIfInBounds_toArray, List.set_cons_zero, List.set_cons_succ]
    refine mix_off (by rfl) ?_
    simp only [Act.put, List.setIfInBounds_toArray, List.set_cons_zero, List.set_cons_succ]
    refine mix_val (.bool false) (by rfl) (fun _ _ => by rfl) ?_
    simp only [Act.put, List.setIfInBounds_toArray, List.set_cons_zero, List.set_cons_succ]
    refine mix_val (.bool false) (by rfl) (fun _ _ => by rfl) ?_
    simp only [Act.put, List.setIfInBounds_toArray, List.set_cons_zero, List.set_cons_succ]
    refine mix_off (by rfl) ?_
    simp only [Act.put, List.setIfInBounds_toArray, List.set_cons_zero, List.set_cons_succ]
    refine mix_off (by rfl) ?_
    simp only [Act.put, List.setIfInBounds_toArray, List.set_cons_zero, List.set_cons_succ]
    refine mix_off (by rfl) ?_
    simp only [Act.put, List.setIfInBounds_toArray, List.set_cons_zero, List.set_cons_succ]
    refine mix_val (.bool false) (by rfl) (fun _ _ => by rfl) ?_
    simp only [Act.put, List.setIfInBounds_toArray, List.set_cons_zero, List.set_cons_succ]
    refine mix_val (.bool false) (by rfl) (fun _ _ => by rfl) ?_
    simp only [Act.put, List.setIfInBounds_toArray, List.set_cons_zero, List.set_cons_succ]
    refine mix_off (by rfl) ?_
    simp only [Act.put, List.setIfInBounds_toArray, List.set_cons_zero, List.set_cons_succ]
    refine mix_off (by rfl) ?_
    simp only [Act.put, List.setIfInBounds_toArray, List.set_cons_zero, List.set_cons_succ]
    refine mix_off (by rfl) ?_
    simp only [Act.put, List.setIfInBounds_toArray, List.set_cons_zero, List.set_cons_succ]
    refine mix_val (.bool false) (by rfl) (fun _ _ => by rfl) ?_
    simp only [Act.put, List.setIfInBounds_toArray, List.set_cons_zero, List.set_cons_succ]
    refine mix_val (.bool false) (by rfl) (fun _ _ => by rfl) ?_
    simp only [Act.put, List.setIfInBounds_toArray, List.set_cons_zero, List.set_cons_succ]
    refine mix_off (by rfl) ?_
    simp only [Act.put, List.setIfInBounds_toArray, List.set_cons_zero, List.set_cons_succ]
    refine mix_off (by rfl) ?_
    simp only [Act.put, List.setIfInBounds_toArray, List.set_cons_zero, List.set_cons_succ]
    refine mix_off (by rfl) ?_
    simp only [Act.put, List.setIfInBounds_toArray, List.set_cons_zero, List.set_cons_succ]
    refine mix_val (.bool false) (by rfl) (fun _ _ => by rfl) ?_
    simp only [Act.put, List.setIfInBounds_toArray, List.set_cons_zero, List.set_cons_succ]
    refine mix_store_fact (by rfl) _ _ rfl (w.heap.size + 2) (keepV v) (keepT v t) rfl rfl _ R1.out rfl hone ⟨(setRow_other _ _ _ _ (by omega)).trans F1.out, (setRow_other _ _ _ _ (by omega)).trans G1.out⟩ ?_
    simp only [Act.put]
    refine mix_val (.bool false) (by rfl) (fun _ _ => by rfl) ?_
    simp only [Act.put, List.setIfInBounds_toArray, List.set_cons_zero, List.set_cons_succ]
    refine mix_done ?_
    go_wp2_with fail
    refine bodyPost_ret (results_fact_tmp rfl _ _ (w.heap.size + 2) (keepV v) (keepT v t) _ rfl (setRow_heap _ _ _ _ _ _ R1.out) rfl) rfl ?_
    exact ⟨rfl, below_setRow' (Below.drew (Below.drew (B1.out))) _ _ (by omega)⟩
  rcases e1 with _ | _
  · refine wp_region_mix (fun w' => w'.heap[w.heap.size]? = some (.cells (factC v t) 40 (0, 0)) ∧ w'.heap[(w.heap.size + 1)]? = some (.cells (factC (keepV v) (keepT v t)) 40 (0, 0))) [true, true, true, true, true, true, true, true, true, true, true, true, true, true, true, true, true, true, true, true, true, true, true, true, false, true] (by kernel_rfl) (by kernel_rfl) ⟨F1.out, G1.out⟩ ?_
    refine mix_load_fact (by rfl) _ rfl (w.heap.size + 1) rfl (keepV v) (keepT v t) (fun _ hc => hc.2) ?_
    simp only [Act.put, List.setIfInBounds_toArray, List.set_cons_zero, List.set_cons_succ]
    refine mix_val (.pointer (some ⟨w.heap.size, 5, none⟩)) (by rfl) (fun _ _ => by go_simp) ?_
    simp only [Act.put, List.setIfInBounds_toArray, List.set_cons_zero, List.set_cons_succ]
    refine mix_load_int (by rfl) _ rfl ⟨w.heap.size, 5, none⟩ rfl (.int .i64 (v 5)) (fun _ hc => fact_cell 5 (by decide) hc.1) ?_
    simp only [Act.put, List.setIfInBounds_toArray, List.set_cons_zero, List.set_cons_succ]
    refine mix_call 64 #[.int .i64 (v 5)] (.bool true) (by rfl) (fun _ => by go_simp) H0.out ?_
    simp only [Act.put, List.setIfInBounds_toArray, List.set_cons_zero, List.set_cons_succ]
    refine mix_val (.bool true) (by rfl) (fun _ _ => by rfl) ?_
    simp only [Act.put, List.setIfInBounds_toArray, List.set_cons_zero, List.set_cons_succ]
    refine mix_val (.pointer (some ⟨w.heap.size, 3, none⟩)) (by rfl) (fun _ _ => by go_simp) ?_
    simp only [Act.put, List.setIfInBounds_toArray, List.set_cons_zero, List.set_cons_succ]
    refine mix_load_int (by rfl) _ rfl ⟨w.heap.size, 3, none⟩ rfl (.int .i64 (v 3)) (fun _ hc => fact_cell 3 (by decide) hc.1) ?_
    simp only [Act.put, List.setIfInBounds_toArray, List.set_cons_zero, List.set_cons_succ]
    refine mix_call 66 #[.int .i64 (v 3)] (.bool false) (by rfl) (fun _ => by go_simp) H1.out ?_
    simp only [Act.put, List.setIfInBounds_toArray, List.set_cons_zero, List.set_cons_succ]
    refine mix_val (.bool false) (by rfl) (fun _ _ => by rfl) ?_
    simp only [Act.put, List.setIfInBounds_toArray, List.set_cons_zero, List.set_cons_succ]
    refine mix_val (.bool false) (by rfl) (fun _ _ => by rfl) ?_
    simp only [Act.put, List.setIfInBounds_toArray, List.set_cons_zero, List.set_cons_succ]
    refine mix_off (by rfl) ?_
    simp only [Act.put, List.setIfInBounds_toArray, List.set_cons_zero, List.set_cons_succ]
    refine mix_off (by rfl) ?_
    simp only [Act.put, List.setIfInBounds_toArray, List.set_cons_zero, List.set_cons_succ]
    refine mix_off (by rfl) ?_
    simp only [Act.put, List.setIfInBounds_toArray, List.set_cons_zero, List.set_cons_succ]
    refine mix_val (.bool false) (by rfl) (fun _ _ => by rfl) ?_
    simp only [Act.put, List.setIfInBounds_toArray, List.set_cons_zero, List.set_cons_succ]
    refine mix_val (.bool false) (by rfl) (fun _ _ => by rfl) ?_
    simp only [Act.put, List.setIfInBounds_toArray, List.set_cons_zero, List.set_cons_succ]
    refine mix_off (by rfl) ?_
    simp only [Act.put, List.setIfInBounds_toArray, List.set_cons_zero, List.set_cons_succ]
    refine mix_off (by rfl) ?_
    simp only [Act.put, List.setIfInBounds_toArray, List.set_cons_zero, List.set_cons_succ]
    refine mix_off (by rfl) ?_
    simp only [Act.put, List.setIfInBounds_toArray, List.set_cons_zero, List.set_cons_succ]
    refine mix_val (.bool false) (by rfl) (fun _ _ => by rfl) ?_
    simp only [Act.put, List.setIfInBounds_toArray, List.set_cons_zero, List.set_cons_succ]
    refine mix_val (.bool false) (by rfl) (fun _ _ => by rfl) ?_
    simp only [Act.put, List.setIfInBounds_toArray, List.set_cons_zero, List.set_cons_succ]
    refine mix_off (by rfl) ?_
    simp only [Act.put, List.setIfInBounds_toArray, List.set_cons_zero, List.set_cons_succ]
    refine mix_off (by rfl) ?_
    simp only [Act.put, List.setIfInBounds_toArray, List.set_cons_zero, List.set_cons_succ]
    refine mix_off (by rfl) ?_
    simp only [Act.put, List.setIfInBounds_toArray, List.set_cons_zero, List.set_cons_succ]
    refine mix_val (.bool false) (by rfl) (fun _ _ => by rfl) ?_
    simp only [Act.put, List.setIfInBounds_toArray, List.set_cons_zero, List.set_cons_succ]
    refine mix_store_fact (by rfl) _ _ rfl (w.heap.size + 2) (keepV v) (keepT v t) rfl rfl _ R1.out rfl hone ⟨(setRow_other _ _ _ _ (by omega)).trans F1.out, (setRow_other _ _ _ _ (by omega)).trans G1.out⟩ ?_
    simp only [Act.put]
    refine mix_val (.bool false) (by rfl) (fun _ _ => by rfl) ?_
    simp only [Act.put, List.setIfInBounds_toArray, List.set_cons_zero, List.set_cons_succ]
    refine mix_done ?_
    go_wp2_with fail
    refine bodyPost_ret (results_fact_tmp rfl _ _ (w.heap.size + 2) (keepV v) (keepT v t) _ rfl (setRow_heap _ _ _ _ _ _ R1.out) rfl) rfl ?_
    exact ⟨rfl, below_setRow' (Below.drew (Below.drew (B1.out))) _ _ (by omega)⟩
  rcases e2 with _ | _
  · refine wp_region_mix (fun w' => w'.heap[w.heap.size]? = some (.cells (factC v t) 40 (0, 0)) ∧ w'.heap[(w.heap.size + 1)]? = some (.cells (factC (keepV v) (keepT v t)) 40 (0, 0))) [true, true, true, true, true, true, true, true, true, true, true, true, true, true, true, true, true, true, true, true, true, true, true, true, false, true] (by kernel_rfl) (by kernel_rfl) ⟨F1.out, G1.out⟩ ?_
    refine mix_load_fact (by rfl) _ rfl (w.heap.size + 1) rfl (keepV v) (keepT v t) (fun _ hc => hc.2) ?_
    simp only [Act.put, List.setIfInBounds_toArray, List.set_cons_zero, List.set_cons_succ]
    refine mix_val (.pointer (some ⟨w.heap.size, 5, none⟩)) (by rfl) (fun _ _ => by go_simp) ?_
    simp only [Act.put, List.setIfInBounds_toArray, List.set_cons_zero, List.set_cons_succ]
    refine mix_load_int (by rfl) _ rfl ⟨w.heap.size, 5, none⟩ rfl (.int .i64 (v 5)) (fun _ hc => fact_cell 5 (by decide) hc.1) ?_
    simp only [Act.put, List.setIfInBounds_toArray, List.set_cons_zero, List.set_cons_succ]
    refine mix_call 64 #[.int .i64 (v 5)] (.bool true) (by rfl) (fun _ => by go_simp) H0.out ?_
    simp only [Act.put, List.setIfInBounds_toArray, List.set_cons_zero, List.set_cons_succ]
    refine mix_val (.bool true) (by rfl) (fun _ _ => by rfl) ?_
    simp only [Act.put, List.setIfInBounds_toArray, List.set_cons_zero, List.set_cons_succ]
    refine mix_val (.pointer (some ⟨w.heap.size, 3, none⟩)) (by rfl) (fun _ _ => by go_simp) ?_
    simp only [Act.put, List.setIfInBounds_toArray, List.set_cons_zero, List.set_cons_succ]
    refine mix_load_int (by rfl) _ rfl ⟨w.heap.size, 3, none⟩ rfl (.int .i64 (v 3)) (fun _ hc => fact_cell 3 (by decide) hc.1) ?_
    simp only [Act.put, List.setIfInBounds_toArray, List.set_cons_zero, List.set_cons_succ]
    refine mix_call 66 #[.int .i64 (v 3)] (.bool true) (by rfl) (fun _ => by go_simp) H1.out ?_
    simp only [Act.put, List.setIfInBounds_toArray, List.set_cons_zero, List.set_cons_succ]
    refine mix_val (.bool true) (by rfl) (fun _ _ => by rfl) ?_
    simp only [Act.put, List.setIfInBounds_toArray, List.set_cons_zero, List.set_cons_succ]
    refine mix_val (.bool true) (by rfl) (fun _ _ => by rfl) ?_
    simp only [Act.put, List.setIfInBounds_toArray, List.set_cons_zero, List.set_cons_succ]
    refine mix_val (.pointer (some ⟨w.heap.size, 8, none⟩)) (by rfl) (fun _ _ => by go_simp) ?_
    simp only [Act.put, List.setIfInBounds_toArray, List.set_cons_zero, List.set_cons_succ]
    refine mix_load_int (by rfl) _ rfl ⟨w.heap.size, 8, none⟩ rfl (.int .i64 (v 8)) (fun _ hc => fact_cell 8 (by decide) hc.1) ?_
    simp only [Act.put, List.setIfInBounds_toArray, List.set_cons_zero, List.set_cons_succ]
    refine mix_call 65 #[.int .i64 (v 8)] (.bool false) (by rfl) (fun _ => by go_simp) H2.out ?_
    simp only [Act.put, List.setIfInBounds_toArray, List.set_cons_zero, List.set_cons_succ]
    refine mix_val (.bool false) (by rfl) (fun _ _ => by rfl) ?_
    simp only [Act.put, List.setIfInBounds_toArray, List.set_cons_zero, List.set_cons_succ]
    refine mix_val (.bool false) (by rfl) (fun _ _ => by rfl) ?_
    simp only [Act.put, List.setIfInBounds_toArray, List.set_cons_zero, List.set_cons_succ]
    refine mix_off (by rfl) ?_
    simp only [Act.put, List.setIfInBounds_toArray, List.set_cons_zero, List.set_cons_succ]
    refine mix_off (by rfl) ?_
    simp only [Act.put, List.setIfInBounds_toArray, List.set_cons_zero, List.set_cons_succ]
    refine mix_off (by rfl) ?_
    simp only [Act.put, List.setIfInBounds_toArray, List.set_cons_zero, List.set_cons_succ]
    refine mix_val (.bool false) (by rfl) (fun _ _ => by rfl) ?_
    simp only [Act.put, List.setIfInBounds_toArray, List.set_cons_zero, List.set_cons_succ]
    refine mix_val (.bool false) (by rfl) (fun _ _ => by rfl) ?_
    simp only [Act.put, List.setIfInBounds_toArray, List.set_cons_zero, List.set_cons_succ]
    refine mix_off (by rfl) ?_
    simp only [Act.put, List.setIfInBounds_toArray, List.set_cons_zero, List.set_cons_succ]
    refine mix_off (by rfl) ?_
    simp only [Act.put, List.setIfInBounds_toArray, List.set_cons_zero, List.set_cons_succ]
    refine mix_off (by rfl) ?_
    simp only [Act.put, List.setIfInBounds_toArray, List.set_cons_zero, List.set_cons_succ]
    refine mix_val (.bool false) (by rfl) (fun _ _ => by rfl) ?_
    simp only [Act.put, List.setIfInBounds_toArray, List.set_cons_zero, List.set_cons_succ]
    refine mix_store_fact (by rfl) _ _ rfl (w.heap.size + 2) (keepV v) (keepT v t) rfl rfl _ R1.out rfl hone ⟨(setRow_other _ _ _ _ (by omega)).trans F1.out, (setRow_other _ _ _ _ (by omega)).trans G1.out⟩ ?_
    simp only [Act.put]
    refine mix_val (.bool false) (by rfl) (fun _ _ => by rfl) ?_
    simp only [Act.put, List.setIfInBounds_toArray, List.set_cons_zero, List.set_cons_succ]
    refine mix_done ?_
    go_wp2_with fail
    refine bodyPost_ret (results_fact_tmp rfl _ _ (w.heap.size + 2) (keepV v) (keepT v t) _ rfl (setRow_heap _ _ _ _ _ _ R1.out) rfl) rfl ?_
    exact ⟨rfl, below_setRow' (Below.drew (Below.drew (B1.out))) _ _ (by omega)⟩
  rcases e3 with _ | _
  · refine wp_region_mix (fun w' => w'.heap[w.heap.size]? = some (.cells (factC v t) 40 (0, 0)) ∧ w'.heap[(w.heap.size + 1)]? = some (.cells (factC (keepV v) (keepT v t)) 40 (0, 0))) [true, true, true, true, true, true, true, true, true, true, true, true, true, true, true, true, true, true, true, true, true, true, true, true, false, true] (by kernel_rfl) (by kernel_rfl) ⟨F1.out, G1.out⟩ ?_
    refine mix_load_fact (by rfl) _ rfl (w.heap.size + 1) rfl (keepV v) (keepT v t) (fun _ hc => hc.2) ?_
    simp only [Act.put, List.setIfInBounds_toArray, List.set_cons_zero, List.set_cons_succ]
    refine mix_val (.pointer (some ⟨w.heap.size, 5, none⟩)) (by rfl) (fun _ _ => by go_simp) ?_
    simp only [Act.put, List.setIfInBounds_toArray, List.set_cons_zero, List.set_cons_succ]
    refine mix_load_int (by rfl) _ rfl ⟨w.heap.size, 5, none⟩ rfl (.int .i64 (v 5)) (fun _ hc => fact_cell 5 (by decide) hc.1) ?_
    simp only [Act.put, List.setIfInBounds_toArray, List.set_cons_zero, List.set_cons_succ]
    refine mix_call 64 #[.int .i64 (v 5)] (.bool true) (by rfl) (fun _ => by go_simp) H0.out ?_
    simp only [Act.put, List.setIfInBounds_toArray, List.set_cons_zero, List.set_cons_succ]
    refine mix_val (.bool true) (by rfl) (fun _ _ => by rfl) ?_
    simp only [Act.put, List.setIfInBounds_toArray, List.set_cons_zero, List.set_cons_succ]
    refine mix_val (.pointer (some ⟨w.heap.size, 3, none⟩)) (by rfl) (fun _ _ => by go_simp) ?_
    simp only [Act.put, List.setIfInBounds_toArray, List.set_cons_zero, List.set_cons_succ]
    refine mix_load_int (by rfl) _ rfl ⟨w.heap.size, 3, none⟩ rfl (.int .i64 (v 3)) (fun _ hc => fact_cell 3 (by decide) hc.1) ?_
    simp only [Act.put, List.setIfInBounds_toArray, List.set_cons_zero, List.set_cons_succ]
    refine mix_call 66 #[.int .i64 (v 3)] (.bool true) (by rfl) (fun _ => by go_simp) H1.out ?_
    simp only [Act.put, List.setIfInBounds_toArray, List.set_cons_zero, List.set_cons_succ]
    refine mix_val (.bool true) (by rfl) (fun _ _ => by rfl) ?_
    simp only [Act.put, List.setIfInBounds_toArray, List.set_cons_zero, List.set_cons_succ]
    refine mix_val (.bool true) (by rfl) (fun _ _ => by rfl) ?_
    simp only [Act.put, List.setIfInBounds_toArray, List.set_cons_zero, List.set_cons_succ]
    refine mix_val (.pointer (some ⟨w.heap.size, 8, none⟩)) (by rfl) (fun _ _ => by go_simp) ?_
    simp only [Act.put, List.setIfInBounds_toArray, List.set_cons_zero, List.set_cons_succ]
    refine mix_load_int (by rfl) _ rfl ⟨w.heap.size, 8, none⟩ rfl (.int .i64 (v 8)) (fun _ hc => fact_cell 8 (by decide) hc.1) ?_
    simp only [Act.put, List.setIfInBounds_toArray, List.set_cons_zero, List.set_cons_succ]
    refine mix_call 65 #[.int .i64 (v 8)] (.bool true) (by rfl) (fun _ => by go_simp) H2.out ?_
    simp only [Act.put, List.setIfInBounds_toArray, List.set_cons_zero, List.set_cons_succ]
    refine mix_val (.bool true) (by rfl) (fun _ _ => by rfl) ?_
    simp only [Act.put, List.setIfInBounds_toArray, List.set_cons_zero, List.set_cons_succ]
    refine mix_val (.bool true) (by rfl) (fun _ _ => by rfl) ?_
    simp only [Act.put, List.setIfInBounds_toArray, List.set_cons_zero, List.set_cons_succ]
    refine mix_val (.pointer (some ⟨w.heap.size, 13, none⟩)) (by rfl) (fun _ _ => by go_simp) ?_
    simp only [Act.put, List.setIfInBounds_toArray, List.set_cons_zero, List.set_cons_succ]
    refine mix_load_int (by rfl) _ rfl ⟨w.heap.size, 13, none⟩ rfl (.int .i64 (v 13)) (fun _ hc => fact_cell 13 (by decide) hc.1) ?_
    simp only [Act.put, List.setIfInBounds_toArray, List.set_cons_zero, List.set_cons_succ]
    refine mix_call 49 #[.int .i64 (v 13), .int .i64 0, .int .i64 1000000000] (.bool false) (by rfl) (fun _ => by go_simp) H3.out ?_
    simp only [Act.put, List.setIfInBounds_toArray, List.set_cons_zero, List.set_cons_succ]
    refine mix_val (.bool false) (by rfl) (fun _ _ => by rfl) ?_
    simp only [Act.put, List.setIfInBounds_toArray, List.set_cons_zero, List.set_cons_succ]
    refine mix_val (.bool false) (by rfl) (fun _ _ => by rfl) ?_
    simp only [Act.put, List.setIfInBounds_toArray, List.set_cons_zero, List.set_cons_succ]
    refine mix_off (by rfl) ?_
    simp only [Act.put, List.setIfInBounds_toArray, List.set_cons_zero, List.set_cons_succ]
    refine mix_off (by rfl) ?_
    simp only [Act.put, List.setIfInBounds_toArray, List.set_cons_zero, List.set_cons_succ]
    refine mix_off (by rfl) ?_
    simp only [Act.put, List.setIfInBounds_toArray, List.set_cons_zero, List.set_cons_succ]
    refine mix_val (.bool false) (by rfl) (fun _ _ => by rfl) ?_
    simp only [Act.put, List.setIfInBounds_toArray, List.set_cons_zero, List.set_cons_succ]
    refine mix_store_fact (by rfl) _ _ rfl (w.heap.size + 2) (keepV v) (keepT v t) rfl rfl _ R1.out rfl hone ⟨(setRow_other _ _ _ _ (by omega)).trans F1.out, (setRow_other _ _ _ _ (by omega)).trans G1.out⟩ ?_
    simp only [Act.put]
    refine mix_val (.bool false) (by rfl) (fun _ _ => by rfl) ?_
    simp only [Act.put, List.setIfInBounds_toArray, List.set_cons_zero, List.set_cons_succ]
    refine mix_done ?_
    go_wp2_with fail
    refine bodyPost_ret (results_fact_tmp rfl _ _ (w.heap.size + 2) (keepV v) (keepT v t) _ rfl (setRow_heap _ _ _ _ _ _ R1.out) rfl) rfl ?_
    exact ⟨rfl, below_setRow' (Below.drew (Below.drew (B1.out))) _ _ (by omega)⟩
  rcases e4 with _ | _
  · refine wp_region_mix (fun w' => w'.heap[w.heap.size]? = some (.cells (factC v t) 40 (0, 0)) ∧ w'.heap[(w.heap.size + 1)]? = some (.cells (factC (keepV v) (keepT v t)) 40 (0, 0))) [true, true, true, true, true, true, true, true, true, true, true, true, true, true, true, true, true, true, true, true, true, true, true, true, false, true] (by kernel_rfl) (by kernel_rfl) ⟨F1.out, G1.out⟩ ?_
    refine mix_load_fact (by rfl) _ rfl (w.heap.size + 1) rfl (keepV v) (keepT v t) (fun _ hc => hc.2) ?_
    simp only [Act.put, List.setIfInBounds_toArray, List.set_cons_zero, List.set_cons_succ]
    refine mix_val (.pointer (some ⟨w.heap.size, 5, none⟩)) (by rfl) (fun _ _ => by go_simp) ?_
    simp only [Act.put, List.setIfInBounds_toArray, List.set_cons_zero, List.set_cons_succ]
    refine mix_load_int (by rfl) _ rfl ⟨w.heap.size, 5, none⟩ rfl (.int .i64 (v 5)) (fun _ hc => fact_cell 5 (by decide) hc.1) ?_
    simp only [Act.put, List.setIfInBounds_toArray, List.set_cons_zero, List.set_cons_succ]
    refine mix_call 64 #[.int .i64 (v 5)] (.bool true) (by rfl) (fun _ => by go_simp) H0.out ?_
    simp only [Act.put, List.setIfInBounds_toArray, List.set_cons_zero, List.set_cons_succ]
    refine mix_val (.bool true) (by rfl) (fun _ _ => by rfl) ?_
    simp only [Act.put, List.setIfInBounds_toArray, List.set_cons_zero, List.set_cons_succ]
    refine mix_val (.pointer (some ⟨w.heap.size, 3, none⟩)) (by rfl) (fun _ _ => by go_simp) ?_
    simp only [Act.put, List.setIfInBounds_toArray, List.set_cons_zero, List.set_cons_succ]
    refine mix_load_int (by rfl) _ rfl ⟨w.heap.size, 3, none⟩ rfl (.int .i64 (v 3)) (fun _ hc => fact_cell 3 (by decide) hc.1) ?_
    simp only [Act.put, List.setIfInBounds_toArray, List.set_cons_zero, List.set_cons_succ]
    refine mix_call 66 #[.int .i64 (v 3)] (.bool true) (by rfl) (fun _ => by go_simp) H1.out ?_
    simp only [Act.put, List.setIfInBounds_toArray, List.set_cons_zero, List.set_cons_succ]
    refine mix_val (.bool true) (by rfl) (fun _ _ => by rfl) ?_
    simp only [Act.put, List.setIfInBounds_toArray, List.set_cons_zero, List.set_cons_succ]
    refine mix_val (.bool true) (by rfl) (fun _ _ => by rfl) ?_
    simp only [Act.put, List.setIfInBounds_toArray, List.set_cons_zero, List.set_cons_succ]
    refine mix_val (.pointer (some ⟨w.heap.size, 8, none⟩)) (by rfl) (fun _ _ => by go_simp) ?_
    simp only [Act.put, List.setIfInBounds_toArray, List.set_cons_zero, List.set_cons_succ]
    refine mix_load_int (by rfl) _ rfl ⟨w.heap.size, 8, none⟩ rfl (.int .i64 (v 8)) (fun _ hc => fact_cell 8 (by decide) hc.1) ?_
    simp only [Act.put, List.setIfInBounds_toArray, List.set_cons_zero, List.set_cons_succ]
    refine mix_call 65 #[.int .i64 (v 8)] (.bool true) (by rfl) (fun _ => by go_simp) H2.out ?_
    simp only [Act.put, List.setIfInBounds_toArray, List.set_cons_zero, List.set_cons_succ]
    refine mix_val (.bool true) (by rfl) (fun _ _ => by rfl) ?_
    simp only [Act.put, List.setIfInBounds_toArray, List.set_cons_zero, List.set_cons_succ]
    refine mix_val (.bool true) (by rfl) (fun _ _ => by rfl) ?_
    simp only [Act.put, List.setIfInBounds_toArray, List.set_cons_zero, List.set_cons_succ]
    refine mix_val (.pointer (some ⟨w.heap.size, 13, none⟩)) (by rfl) (fun _ _ => by go_simp) ?_
    simp only [Act.put, List.setIfInBounds_toArray, List.set_cons_zero, List.set_cons_succ]
    refine mix_load_int (by rfl) _ rfl ⟨w.heap.size, 13, none⟩ rfl (.int .i64 (v 13)) (fun _ hc => fact_cell 13 (by decide) hc.1) ?_
    simp only [Act.put, List.setIfInBounds_toArray, List.set_cons_zero, List.set_cons_succ]
    refine mix_call 49 #[.int .i64 (v 13), .int .i64 0, .int .i64 1000000000] (.bool true) (by rfl) (fun _ => by go_simp) H3.out ?_
    simp only [Act.put, List.setIfInBounds_toArray, List.set_cons_zero, List.set_cons_succ]
    refine mix_val (.bool true) (by rfl) (fun _ _ => by rfl) ?_
    simp only [Act.put, List.setIfInBounds_toArray, List.set_cons_zero, List.set_cons_succ]
    refine mix_val (.bool true) (by rfl) (fun _ _ => by rfl) ?_
    simp only [Act.put, List.setIfInBounds_toArray, List.set_cons_zero, List.set_cons_succ]
    refine mix_val (.pointer (some ⟨w.heap.size, 15, none⟩)) (by rfl) (fun _ _ => by go_simp) ?_
    simp only [Act.put, List.setIfInBounds_toArray, List.set_cons_zero, List.set_cons_succ]
    refine mix_load_int (by rfl) _ rfl ⟨w.heap.size, 15, none⟩ rfl (.int .i64 (v 15)) (fun _ hc => fact_cell 15 (by decide) hc.1) ?_
    simp only [Act.put, List.setIfInBounds_toArray, List.set_cons_zero, List.set_cons_succ]
    refine mix_call 49 #[.int .i64 (v 15), .int .i64 0, .int .i64 20] (.bool false) (by rfl) (fun _ => by go_simp) H4.out ?_
    simp only [Act.put, List.setIfInBounds_toArray, List.set_cons_zero, List.set_cons_succ]
    refine mix_val (.bool false) (by rfl) (fun _ _ => by rfl) ?_
    simp only [Act.put, List.setIfInBounds_toArray, List.set_cons_zero, List.set_cons_succ]
    refine mix_store_fact (by rfl) _ _ rfl (w.heap.size + 2) (keepV v) (keepT v t) rfl rfl _ R1.out rfl hone ⟨(setRow_other _ _ _ _ (by omega)).trans F1.out, (setRow_other _ _ _ _ (by omega)).trans G1.out⟩ ?_
    simp only [Act.put]
    refine mix_val (.bool false) (by rfl) (fun _ _ => by rfl) ?_
    simp only [Act.put, List.setIfInBounds_toArray, List.set_cons_zero, List.set_cons_succ]
    refine mix_done ?_
    go_wp2_with fail
    refine bodyPost_ret (results_fact_tmp rfl _ _ (w.heap.size + 2) (keepV v) (keepT v t) _ rfl (setRow_heap _ _ _ _ _ _ R1.out) rfl) rfl ?_
    exact ⟨rfl, below_setRow' (Below.drew (Below.drew (B1.out))) _ _ (by omega)⟩
  refine wp_region_mix (fun w' => w'.heap[w.heap.size]? = some (.cells (factC v t) 40 (0, 0)) ∧ w'.heap[(w.heap.size + 1)]? = some (.cells (factC (keepV v) (keepT v t)) 40 (0, 0))) [true, true, true, true, true, true, true, true, true, true, true, true, true, true, true, true, true, true, true, true, true, true, true, true, false, true] (by kernel_rfl) (by kernel_rfl) ⟨F1.out, G1.out⟩ ?_
  refine mix_load_fact (by rfl) _ rfl (w.heap.size + 1) rfl (keepV v) (keepT v t) (fun _ hc => hc.2) ?_
  simp only [Act.put, List.setIfInBounds_toArray, List.set_cons_zero, List.set_cons_succ]
  refine mix_val (.pointer (some ⟨w.heap.size, 5, none⟩)) (by rfl) (fun _ _ => by go_simp) ?_
  simp only [Act.put, List.setIfInBounds_toArray, List.set_cons_zero, List.set_cons_succ]
  refine mix_load_int (by rfl) _ rfl ⟨w.heap.size, 5, none⟩ rfl (.int .i64 (v 5)) (fun _ hc => fact_cell 5 (by decide) hc.1) ?_
  simp only [Act.put, List.setIfInBounds_toArray, List.set_cons_zero, List.set_cons_succ]
  refine mix_call 64 #[.int .i64 (v 5)] (.bool true) (by rfl) (fun _ => by go_simp) H0.out ?_
  simp only [Act.put, List.setIfInBounds_toArray, List.set_cons_zero, List.set_cons_succ]
  refine mix_val (.bool true) (by rfl) (fun _ _ => by rfl) ?_
  simp only [Act.put, List.setIfInBounds_toArray, List.set_cons_zero, List.set_cons_succ]
  refine mix_val (.pointer (some ⟨w.heap.size, 3, none⟩)) (by rfl) (fun _ _ => by go_simp) ?_
  simp only [Act.put, List.setIfInBounds_toArray, List.set_cons_zero, List.set_cons_succ]
  refine mix_load_int (by rfl) _ rfl ⟨w.heap.size, 3, none⟩ rfl (.int .i64 (v 3)) (fun _ hc => fact_cell 3 (by decide) hc.1) ?_
  simp only [Act.put, List.setIfInBounds_toArray, List.set_cons_zero, List.set_cons_succ]
  refine mix_call 66 #[.int .i64 (v 3)] (.bool true) (by rfl) (fun _ => by go_simp) H1.out ?_
  simp only [Act.put, List.setIfInBounds_toArray, List.set_cons_zero, List.set_cons_succ]
  refine mix_val (.bool true) (by rfl) (fun _ _ => by rfl) ?_
  simp only [Act.put, List.setIfInBounds_toArray, List.set_cons_zero, List.set_cons_succ]
  refine mix_val (.bool true) (by rfl) (fun _ _ => by rfl) ?_
  simp only [Act.put, List.setIfInBounds_toArray, List.set_cons_zero, List.set_cons_succ]
  refine mix_val (.pointer (some ⟨w.heap.size, 8, none⟩)) (by rfl) (fun _ _ => by go_simp) ?_
  simp only [Act.put, List.setIfInBounds_toArray, List.set_cons_zero, List.set_cons_succ]
  refine mix_load_int (by rfl) _ rfl ⟨w.heap.size, 8, none⟩ rfl (.int .i64 (v 8)) (fun _ hc => fact_cell 8 (by decide) hc.1) ?_
  simp only [Act.put, List.setIfInBounds_toArray, List.set_cons_zero, List.set_cons_succ]
  refine mix_call 65 #[.int .i64 (v 8)] (.bool true) (by rfl) (fun _ => by go_simp) H2.out ?_
  simp only [Act.put, List.setIfInBounds_toArray, List.set_cons_zero, List.set_cons_succ]
  refine mix_val (.bool true) (by rfl) (fun _ _ => by rfl) ?_
  simp only [Act.put, List.setIfInBounds_toArray, List.set_cons_zero, List.set_cons_succ]
  refine mix_val (.bool true) (by rfl) (fun _ _ => by rfl) ?_
  simp only [Act.put, List.setIfInBounds_toArray, List.set_cons_zero, List.set_cons_succ]
  refine mix_val (.pointer (some ⟨w.heap.size, 13, none⟩)) (by rfl) (fun _ _ => by go_simp) ?_
  simp only [Act.put, List.setIfInBounds_toArray, List.set_cons_zero, List.set_cons_succ]
  refine mix_load_int (by rfl) _ rfl ⟨w.heap.size, 13, none⟩ rfl (.int .i64 (v 13)) (fun _ hc => fact_cell 13 (by decide) hc.1) ?_
  simp only [Act.put, List.setIfInBounds_toArray, List.set_cons_zero, List.set_cons_succ]
  refine mix_call 49 #[.int .i64 (v 13), .int .i64 0, .int .i64 1000000000] (.bool true) (by rfl) (fun _ => by go_simp) H3.out ?_
  simp only [Act.put, List.setIfInBounds_toArray, List.set_cons_zero, List.set_cons_succ]
  refine mix_val (.bool true) (by rfl) (fun _ _ => by rfl) ?_
  simp only [Act.put, List.setIfInBounds_toArray, List.set_cons_zero, List.set_cons_succ]
  refine mix_val (.bool true) (by rfl) (fun _ _ => by rfl) ?_
  simp only [Act.put, List.setIfInBounds_toArray, List.set_cons_zero, List.set_cons_succ]
  refine mix_val (.pointer (some ⟨w.heap.size, 15, none⟩)) (by rfl) (fun _ _ => by go_simp) ?_
  simp only [Act.put, List.setIfInBounds_toArray, List.set_cons_zero, List.set_cons_succ]
  refine mix_load_int (by rfl) _ rfl ⟨w.heap.size, 15, none⟩ rfl (.int .i64 (v 15)) (fun _ hc => fact_cell 15 (by decide) hc.1) ?_
  simp only [Act.put, List.setIfInBounds_toArray, List.set_cons_zero, List.set_cons_succ]
  refine mix_call 49 #[.int .i64 (v 15), .int .i64 0, .int .i64 20] (.bool true) (by rfl) (fun _ => by go_simp) H4.out ?_
  simp only [Act.put, List.setIfInBounds_toArray, List.set_cons_zero, List.set_cons_succ]
  refine mix_val (.bool true) (by rfl) (fun _ _ => by rfl) ?_
  simp only [Act.put, List.setIfInBounds_toArray, List.set_cons_zero, List.set_cons_succ]
  refine mix_store_fact (by rfl) _ _ rfl (w.heap.size + 2) (keepV v) (keepT v t) rfl rfl _ R1.out rfl hone ⟨(setRow_other _ _ _ _ (by omega)).trans F1.out, (setRow_other _ _ _ _ (by omega)).trans G1.out⟩ ?_
  simp only [Act.put]
  refine mix_val (.bool true) (by rfl) (fun _ _ => by rfl) ?_
  simp only [Act.put, List.setIfInBounds_toArray, List.set_cons_zero, List.set_cons_succ]
  refine mix_done ?_
  go_wp2_with fail
  refine bodyPost_ret (results_fact_tmp rfl _ _ (w.heap.size + 2) (keepV v) (keepT v t) _ rfl (setRow_heap _ _ _ _ _ _ R1.out) rfl) rfl ?_
  exact ⟨rfl, below_setRow' (Below.drew (Below.drew (B1.out))) _ _ (by omega)⟩

set_option maxRecDepth 100000 in
set_option maxHeartbeats 8000000 in
theorem rest_7 (v : Nat → Int) (t : ByteArray) (w : World) (hk : v 0 = 7) :
    Calls Tryz.prog 67 #[.agg (factC v t), .agg (factC (baseK 7 (v 2)) ⟨#[]⟩)] w fun e W' => e = .returned (.tuple #[.agg (factC (keepV v) (keepT v t)), .bool (inB (v 15) 1 20 && inB (v 3) 0 1199 && inB (v 13) 1 10000000)]) ∧ Below w.heap.size w W' := by
  have H0 := Lib.hid (fun W => within_calls (v 15) 1 20 W)
  generalize inB (v 15) 1 20 = e0 at *
  have H1 := Lib.hid (fun W => period_calls (v 3) W)
  generalize inB (v 3) 0 1199 = e1 at *
  have H2 := Lib.hid (fun W => within_calls (v 13) 1 10000000 W)
  generalize inB (v 13) 1 10000000 = e2 at *
  go_enter Tryz.func67, Tryz.ntmps67
  go_upto_region 1 with (fail)
  obtain ⟨W0, hW0, f0, g0, r0, b0⟩ := three_rows w (factC v t) (factC (baseK 7 (v 2)) ⟨#[]⟩) (factC zeroV ⟨#[]⟩) 40 40 40
  rw [hW0]
  clear hW0
  have F0 := Lib.hid f0
  have G0 := Lib.hid g0
  have R0 := Lib.hid r0
  have B0 := Lib.hid b0
  clear f0 g0 r0 b0
  obtain ⟨c0, -⟩ := row18 F0.out
  rw [hk] at c0
  go_upto_region 6 with (first
      | (refine wpList_load_fact rfl _ rfl w.heap.size rfl v t F0.out ?_)
      | (refine wpList_load_fact rfl _ rfl (w.heap.size + 1) rfl (baseK 7 (v 2)) ⟨#[]⟩ G0.out ?_)
      | (refine wpList_load_fact rfl _ rfl (w.heap.size + 2) rfl zeroV ⟨#[]⟩ R0.out ?_))
  clear c0
  obtain ⟨-, -, -, d3, -, -, -, -, -, -, -, -, -, d13, -, d15, -⟩ := row18 F0.out
  obtain ⟨-, -, -, c3, -, -, -, -, -, -, -, -, -, c13, -, c15, -⟩ := row18 G0.out
  have z15 : W0.frozen? ⟨(w.heap.size + 1), 15, none⟩ = false := frozen_of_row _ _ _ _ _ G0.out
  have z3 : W0.frozen? ⟨(w.heap.size + 1), 3, none⟩ = false := frozen_of_row _ _ _ _ _ G0.out
  have z13 : W0.frozen? ⟨(w.heap.size + 1), 13, none⟩ = false := frozen_of_row _ _ _ _ _ G0.out
  go_region_held3 (fun w' => w'.cell? ⟨w.heap.size, 15, none⟩ = some (.int .i64 (v 15)) ∧ w'.cell? ⟨w.heap.size, 3, none⟩ = some (.int .i64 (v 3)) ∧ w'.cell? ⟨w.heap.size, 13, none⟩ = some (.int .i64 (v 13))) (go_keep) (fail)
  go_upto_region 7 with (first
      | (refine wpList_load_fact rfl _ rfl w.heap.size rfl v t F0.out ?_)
      | (refine wpList_load_fact rfl _ rfl (w.heap.size + 1) rfl (baseK 7 (v 2)) ⟨#[]⟩ G0.out ?_)
      | (refine wpList_load_fact rfl _ rfl (w.heap.size + 2) rfl zeroV ⟨#[]⟩ R0.out ?_))
  obtain ⟨W1, hW1, F1, G1, R1, B1⟩ : ∃ W1, (((W0.setCell ⟨(w.heap.size + 1), 15, none⟩ (.int .i64 (v 15))).setCell ⟨(w.heap.size + 1), 3, none⟩ (.int .i64 (v 3))).setCell ⟨(w.heap.size + 1), 13, none⟩ (.int .i64 (v 13))) = W1 ∧ Hid (W1.heap[w.heap.size]? = some (.cells (factC v t) 40 (0, 0))) ∧ Hid (W1.heap[(w.heap.size + 1)]? = some (.cells (factC (setF (setF (setF (baseK 7 (v 2)) 15 (v 15)) 3 (v 3)) 13 (v 13)) ⟨#[]⟩) 40 (0, 0))) ∧ Hid (W1.heap[(w.heap.size + 2)]? = some (.cells (factC zeroV ⟨#[]⟩) 40 (0, 0))) ∧ Hid (Below w.heap.size w W1) :=
    ⟨_, rfl, Lib.hid (other_cell 13 _ (by omega) (other_cell 3 _ (by omega) (other_cell 15 _ (by omega) F0.out))), Lib.hid (setF_cell 13 (v 13) (by omega) (setF_cell 3 (v 3) (by omega) (setF_cell 15 (v 15) (by omega) G0.out))), Lib.hid (other_cell 13 _ (by omega) (other_cell 3 _ (by omega) (other_cell 15 _ (by omega) R0.out))), Lib.hid (((B0.out.setCell (p := ⟨(w.heap.size + 1), 15, none⟩) (show w.heap.size ≤ (w.heap.size + 1) by omega) _).setCell (p := ⟨(w.heap.size + 1), 3, none⟩) (show w.heap.size ≤ (w.heap.size + 1) by omega) _).setCell (p := ⟨(w.heap.size + 1), 13, none⟩) (show w.heap.size ≤ (w.heap.size + 1) by omega) _)⟩
  rw [hW1]
  clear hW1 F0 G0 R0 B0
  clear c15 z15 d15 c3 z3 d3 c13 z13 d13
  have hkeep := keep_7 v t hk
  rw [hkeep] at G1
  clear hkeep hk
  have hone := factC_one (keepV v) (keepT v t)
  rcases e0 with _ | _
  · refine wp_region_mix (fun w' => w'.heap[w.heap.size]? = some (.cells (factC v t) 40 (0, 0)) ∧ w'.heap[(w.heap.size + 1)]? = some (.cells (factC (keepV v) (keepT v t)) 40 (0, 0))) [true, true, true, true, true, true, true, true, true, true, true, true, true, true, false, true] (by kernel_rfl) (by kernel_rfl) ⟨F1.out, G1.out⟩ ?_
    refine mix_load_fact (by rfl) _ rfl (w.heap.size + 1) rfl (keepV v) (keepT v t) (fun _ hc => hc.2) ?_
    simp only [Act.put, List.setIfInBounds_toArray, List.set_cons_zero, List.set_cons_succ]
    refine mix_val (.pointer (some ⟨w.heap.size, 15, none⟩)) (by rfl) (fun _ _ => by go_simp) ?_
    simp only [Act.put, List.setIfInBounds_toArray, List.set_cons_zero, List.set_cons_succ]
    refine mix_load_int (by rfl) _ rfl ⟨w.heap.size, 15, none⟩ rfl (.int .i64 (v 15)) (fun _ hc => fact_cell 15 (by decide) hc.1) ?_
    simp only [Act.put, List.setIfInBounds_toArray, List.set_cons_zero, List.set_cons_succ]
    refine mix_call 49 #[.int .i64 (v 15), .int .i64 1, .int .i64 20] (.bool false) (by rfl) (fun _ => by go_simp) H0.out ?_
    simp only [Act.put, List.setIfInBounds_toArray, List.set_cons_zero, List.set_cons_succ]
    refine mix_val (.bool false) (by rfl) (fun _ _ => by rfl) ?_
    simp only [Act.put, List.setIfInBounds_toArray, List.set_cons_zero, List.set_cons_succ]
    refine mix_off (by rfl) ?_
    simp only [Act.put, List.setIfInBounds_toArray, List.set_cons_zero, List.set_cons_succ]
    refine mix_off (by rfl) ?_
    simp only [Act.put, List.setIfInBounds_toArray, List.set_cons_zero, List.set_cons_succ]
    refine mix_off (by rfl) ?_
    simp only [Act.put, List.setIfInBounds_toArray, List.set_cons_zero, List.set_cons_succ]
    refine mix_val (.bool false) (by rfl) (fun _ _ => by rfl) ?_
    simp only [Act.put, List.setIfInBounds_toArray, List.set_cons_zero, List.set_cons_succ]
    refine mix_val (.bool false) (by rfl) (fun _ _ => by rfl) ?_
    simp only [Act.put, List.setIfInBounds_toArray, List.set_cons_zero, List.set_cons_succ]
    refine mix_off (by rfl) ?_
    simp only [Act.put, List.setIfInBounds_toArray, List.set_cons_zero, List.set_cons_succ]
    refine mix_off (by rfl) ?_
    simp only [Act.put, List.setIfInBounds_toArray, List.set_cons_zero, List.set_cons_succ]
    refine mix_off (by rfl) ?_
    simp only [Act.put, List.setIfInBounds_toArray, List.set_cons_zero, List.set_cons_succ]
    refine mix_val (.bool false) (by rfl) (fun _ _ => by rfl) ?_
    simp only [Act.put, List.setIfInBounds_toArray, List.set_cons_zero, List.set_cons_succ]
    refine mix_store_fact (by rfl) _ _ rfl (w.heap.size + 2) (keepV v) (keepT v t) rfl rfl _ R1.out rfl hone ⟨(setRow_other _ _ _ _ (by omega)).trans F1.out, (setRow_other _ _ _ _ (by omega)).trans G1.out⟩ ?_
    simp only [Act.put]
    refine mix_val (.bool false) (by rfl) (fun _ _ => by rfl) ?_
    simp only [Act.put, List.setIfInBounds_toArray, List.set_cons_zero, List.set_cons_succ]
    refine mix_done ?_
    go_wp2_with fail
    refine bodyPost_ret (results_fact_tmp rfl _ _ (w.heap.size + 2) (keepV v) (keepT v t) _ rfl (setRow_heap _ _ _ _ _ _ R1.out) rfl) rfl ?_
    exact ⟨rfl, below_setRow' (Below.drew (Below.drew (B1.out))) _ _ (by omega)⟩
  rcases e1 with _ | _
  · refine wp_region_mix (fun w' => w'.heap[w.heap.size]? = some (.cells (factC v t) 40 (0, 0)) ∧ w'.heap[(w.heap.size + 1)]? = some (.cells (factC (keepV v) (keepT v t)) 40 (0, 0))) [true, true, true, true, true, true, true, true, true, true, true, true, true, true, false, true] (by kernel_rfl) (by kernel_rfl) ⟨F1.out, G1.out⟩ ?_
    refine mix_load_fact (by rfl) _ rfl (w.heap.size + 1) rfl (keepV v) (keepT v t) (fun _ hc => hc.2) ?_
    simp only [Act.put, List.setIfInBounds_toArray, List.set_cons_zero, List.set_cons_succ]
    refine mix_val (.pointer (some ⟨w.heap.size, 15, none⟩)) (by rfl) (fun _ _ => by go_simp) ?_
    simp only [Act.put, List.setIfInBounds_toArray, List.set_cons_zero, List.set_cons_succ]
    refine mix_load_int (by rfl) _ rfl ⟨w.heap.size, 15, none⟩ rfl (.int .i64 (v 15)) (fun _ hc => fact_cell 15 (by decide) hc.1) ?_
    simp only [Act.put, List.setIfInBounds_toArray, List.set_cons_zero, List.set_cons_succ]
    refine mix_call 49 #[.int .i64 (v 15), .int .i64 1, .int .i64 20] (.bool true) (by rfl) (fun _ => by go_simp) H0.out ?_
    simp only [Act.put, List.setIfInBounds_toArray, List.set_cons_zero, List.set_cons_succ]
    refine mix_val (.bool true) (by rfl) (fun _ _ => by rfl) ?_
    simp only [Act.put, List.setIfInBounds_toArray, List.set_cons_zero, List.set_cons_succ]
    refine mix_val (.pointer (some ⟨w.heap.size, 3, none⟩)) (by rfl) (fun _ _ => by go_simp) ?_
    simp only [Act.put, List.setIfInBounds_toArray, List.set_cons_zero, List.set_cons_succ]
    refine mix_load_int (by rfl) _ rfl ⟨w.heap.size, 3, none⟩ rfl (.int .i64 (v 3)) (fun _ hc => fact_cell 3 (by decide) hc.1) ?_
    simp only [Act.put, List.setIfInBounds_toArray, List.set_cons_zero, List.set_cons_succ]
    refine mix_call 66 #[.int .i64 (v 3)] (.bool false) (by rfl) (fun _ => by go_simp) H1.out ?_
    simp only [Act.put, List.setIfInBounds_toArray, List.set_cons_zero, List.set_cons_succ]
    refine mix_val (.bool false) (by rfl) (fun _ _ => by rfl) ?_
    simp only [Act.put, List.setIfInBounds_toArray, List.set_cons_zero, List.set_cons_succ]
    refine mix_val (.bool false) (by rfl) (fun _ _ => by rfl) ?_
    simp only [Act.put, List.setIfInBounds_toArray, List.set_cons_zero, List.set_cons_succ]
    refine mix_off (by rfl) ?_
    simp only [Act.put, List.setIfInBounds_toArray, List.set_cons_zero, List.set_cons_succ]
    refine mix_off (by rfl) ?_
    simp only [Act.put, List.setIfInBounds_toArray, List.set_cons_zero, List.set_cons_succ]
    refine mix_off (by rfl) ?_
    simp only [Act.put, List.setIfInBounds_toArray, List.set_cons_zero, List.set_cons_succ]
    refine mix_val (.bool false) (by rfl) (fun _ _ => by rfl) ?_
    simp only [Act.put, List.setIfInBounds_toArray, List.set_cons_zero, List.set_cons_succ]
    refine mix_store_fact (by rfl) _ _ rfl (w.heap.size + 2) (keepV v) (keepT v t) rfl rfl _ R1.out rfl hone ⟨(setRow_other _ _ _ _ (by omega)).trans F1.out, (setRow_other _ _ _ _ (by omega)).trans G1.out⟩ ?_
    simp only [Act.put]
    refine mix_val (.bool false) (by rfl) (fun _ _ => by rfl) ?_
    simp only [Act.put, List.setIfInBounds_toArray, List.set_cons_zero, List.set_cons_succ]
    refine mix_done ?_
    go_wp2_with fail
    refine bodyPost_ret (results_fact_tmp rfl _ _ (w.heap.size + 2) (keepV v) (keepT v t) _ rfl (setRow_heap _ _ _ _ _ _ R1.out) rfl) rfl ?_
    exact ⟨rfl, below_setRow' (Below.drew (Below.drew (B1.out))) _ _ (by omega)⟩
  rcases e2 with _ | _
  · refine wp_region_mix (fun w' => w'.heap[w.heap.size]? = some (.cells (factC v t) 40 (0, 0)) ∧ w'.heap[(w.heap.size + 1)]? = some (.cells (factC (keepV v) (keepT v t)) 40 (0, 0))) [true, true, true, true, true, true, true, true, true, true, true, true, true, true, false, true] (by kernel_rfl) (by kernel_rfl) ⟨F1.out, G1.out⟩ ?_
    refine mix_load_fact (by rfl) _ rfl (w.heap.size + 1) rfl (keepV v) (keepT v t) (fun _ hc => hc.2) ?_
    simp only [Act.put, List.setIfInBounds_toArray, List.set_cons_zero, List.set_cons_succ]
    refine mix_val (.pointer (some ⟨w.heap.size, 15, none⟩)) (by rfl) (fun _ _ => by go_simp) ?_
    simp only [Act.put, List.setIfInBounds_toArray, List.set_cons_zero, List.set_cons_succ]
    refine mix_load_int (by rfl) _ rfl ⟨w.heap.size, 15, none⟩ rfl (.int .i64 (v 15)) (fun _ hc => fact_cell 15 (by decide) hc.1) ?_
    simp only [Act.put, List.setIfInBounds_toArray, List.set_cons_zero, List.set_cons_succ]
    refine mix_call 49 #[.int .i64 (v 15), .int .i64 1, .int .i64 20] (.bool true) (by rfl) (fun _ => by go_simp) H0.out ?_
    simp only [Act.put, List.setIfInBounds_toArray, List.set_cons_zero, List.set_cons_succ]
    refine mix_val (.bool true) (by rfl) (fun _ _ => by rfl) ?_
    simp only [Act.put, List.setIfInBounds_toArray, List.set_cons_zero, List.set_cons_succ]
    refine mix_val (.pointer (some ⟨w.heap.size, 3, none⟩)) (by rfl) (fun _ _ => by go_simp) ?_
    simp only [Act.put, List.setIfInBounds_toArray, List.set_cons_zero, List.set_cons_succ]
    refine mix_load_int (by rfl) _ rfl ⟨w.heap.size, 3, none⟩ rfl (.int .i64 (v 3)) (fun _ hc => fact_cell 3 (by decide) hc.1) ?_
    simp only [Act.put, List.setIfInBounds_toArray, List.set_cons_zero, List.set_cons_succ]
    refine mix_call 66 #[.int .i64 (v 3)] (.bool true) (by rfl) (fun _ => by go_simp) H1.out ?_
    simp only [Act.put, List.setIfInBounds_toArray, List.set_cons_zero, List.set_cons_succ]
    refine mix_val (.bool true) (by rfl) (fun _ _ => by rfl) ?_
    simp only [Act.put, List.setIfInBounds_toArray, List.set_cons_zero, List.set_cons_succ]
    refine mix_val (.bool true) (by rfl) (fun _ _ => by rfl) ?_
    simp only [Act.put, List.setIfInBounds_toArray, List.set_cons_zero, List.set_cons_succ]
    refine mix_val (.pointer (some ⟨w.heap.size, 13, none⟩)) (by rfl) (fun _ _ => by go_simp) ?_
    simp only [Act.put, List.setIfInBounds_toArray, List.set_cons_zero, List.set_cons_succ]
    refine mix_load_int (by rfl) _ rfl ⟨w.heap.size, 13, none⟩ rfl (.int .i64 (v 13)) (fun _ hc => fact_cell 13 (by decide) hc.1) ?_
    simp only [Act.put, List.setIfInBounds_toArray, List.set_cons_zero, List.set_cons_succ]
    refine mix_call 49 #[.int .i64 (v 13), .int .i64 1, .int .i64 10000000] (.bool false) (by rfl) (fun _ => by go_simp) H2.out ?_
    simp only [Act.put, List.setIfInBounds_toArray, List.set_cons_zero, List.set_cons_succ]
    refine mix_val (.bool false) (by rfl) (fun _ _ => by rfl) ?_
    simp only [Act.put, List.setIfInBounds_toArray, List.set_cons_zero, List.set_cons_succ]
    refine mix_store_fact (by rfl) _ _ rfl (w.heap.size + 2) (keepV v) (keepT v t) rfl rfl _ R1.out rfl hone ⟨(setRow_other _ _ _ _ (by omega)).trans F1.out, (setRow_other _ _ _ _ (by omega)).trans G1.out⟩ ?_
    simp only [Act.put]
    refine mix_val (.bool false) (by rfl) (fun _ _ => by rfl) ?_
    simp only [Act.put, List.setIfInBounds_toArray, List.set_cons_zero, List.set_cons_succ]
    refine mix_done ?_
    go_wp2_with fail
    refine bodyPost_ret (results_fact_tmp rfl _ _ (w.heap.size + 2) (keepV v) (keepT v t) _ rfl (setRow_heap _ _ _ _ _ _ R1.out) rfl) rfl ?_
    exact ⟨rfl, below_setRow' (Below.drew (Below.drew (B1.out))) _ _ (by omega)⟩
  refine wp_region_mix (fun w' => w'.heap[w.heap.size]? = some (.cells (factC v t) 40 (0, 0)) ∧ w'.heap[(w.heap.size + 1)]? = some (.cells (factC (keepV v) (keepT v t)) 40 (0, 0))) [true, true, true, true, true, true, true, true, true, true, true, true, true, true, false, true] (by kernel_rfl) (by kernel_rfl) ⟨F1.out, G1.out⟩ ?_
  refine mix_load_fact (by rfl) _ rfl (w.heap.size + 1) rfl (keepV v) (keepT v t) (fun _ hc => hc.2) ?_
  simp only [Act.put, List.setIfInBounds_toArray, List.set_cons_zero, List.set_cons_succ]
  refine mix_val (.pointer (some ⟨w.heap.size, 15, none⟩)) (by rfl) (fun _ _ => by go_simp) ?_
  simp only [Act.put, List.setIfInBounds_toArray, List.set_cons_zero, List.set_cons_succ]
  refine mix_load_int (by rfl) _ rfl ⟨w.heap.size, 15, none⟩ rfl (.int .i64 (v 15)) (fun _ hc => fact_cell 15 (by decide) hc.1) ?_
  simp only [Act.put, List.setIfInBounds_toArray, List.set_cons_zero, List.set_cons_succ]
  refine mix_call 49 #[.int .i64 (v 15), .int .i64 1, .int .i64 20] (.bool true) (by rfl) (fun _ => by go_simp) H0.out ?_
  simp only [Act.put, List.setIfInBounds_toArray, List.set_cons_zero, List.set_cons_succ]
  refine mix_val (.bool true) (by rfl) (fun _ _ => by rfl) ?_
  simp only [Act.put, List.setIfInBounds_toArray, List.set_cons_zero, List.set_cons_succ]
  refine mix_val (.pointer (some ⟨w.heap.size, 3, none⟩)) (by rfl) (fun _ _ => by go_simp) ?_
  simp only [Act.put, List.setIfInBounds_toArray, List.set_cons_zero, List.set_cons_succ]
  refine mix_load_int (by rfl) _ rfl ⟨w.heap.size, 3, none⟩ rfl (.int .i64 (v 3)) (fun _ hc => fact_cell 3 (by decide) hc.1) ?_
  simp only [Act.put, List.setIfInBounds_toArray, List.set_cons_zero, List.set_cons_succ]
  refine mix_call 66 #[.int .i64 (v 3)] (.bool true) (by rfl) (fun _ => by go_simp) H1.out ?_
  simp only [Act.put, List.setIfInBounds_toArray, List.set_cons_zero, List.set_cons_succ]
  refine mix_val (.bool true) (by rfl) (fun _ _ => by rfl) ?_
  simp only [Act.put, List.setIfInBounds_toArray, List.set_cons_zero, List.set_cons_succ]
  refine mix_val (.bool true) (by rfl) (fun _ _ => by rfl) ?_
  simp only [Act.put, List.setIfInBounds_toArray, List.set_cons_zero, List.set_cons_succ]
  refine mix_val (.pointer (some ⟨w.heap.size, 13, none⟩)) (by rfl) (fun _ _ => by go_simp) ?_
  simp only [Act.put, List.setIfInBounds_toArray, List.set_cons_zero, List.set_cons_succ]
  refine mix_load_int (by rfl) _ rfl ⟨w.heap.size, 13, none⟩ rfl (.int .i64 (v 13)) (fun _ hc => fact_cell 13 (by decide) hc.1) ?_
  simp only [Act.put, List.setIfInBounds_toArray, List.set_cons_zero, List.set_cons_succ]
  refine mix_call 49 #[.int .i64 (v 13), .int .i64 1, .int .i64 10000000] (.bool true) (by rfl) (fun _ => by go_simp) H2.out ?_
  simp only [Act.put, List.setIfInBounds_toArray, List.set_cons_zero, List.set_cons_succ]
  refine mix_val (.bool true) (by rfl) (fun _ _ => by rfl) ?_
  simp only [Act.put, List.setIfInBounds_toArray, List.set_cons_zero, List.set_cons_succ]
  refine mix_store_fact (by rfl) _ _ rfl (w.heap.size + 2) (keepV v) (keepT v t) rfl rfl _ R1.out rfl hone ⟨(setRow_other _ _ _ _ (by omega)).trans F1.out, (setRow_other _ _ _ _ (by omega)).trans G1.out⟩ ?_
  simp only [Act.put]
  refine mix_val (.bool true) (by rfl) (fun _ _ => by rfl) ?_
  simp only [Act.put, List.setIfInBounds_toArray, List.set_cons_zero, List.set_cons_succ]
  refine mix_done ?_
  go_wp2_with fail
  refine bodyPost_ret (results_fact_tmp rfl _ _ (w.heap.size + 2) (keepV v) (keepT v t) _ rfl (setRow_heap _ _ _ _ _ _ R1.out) rfl) rfl ?_
  exact ⟨rfl, below_setRow' (Below.drew (Below.drew (B1.out))) _ _ (by omega)⟩

set_option maxRecDepth 100000 in
set_option maxHeartbeats 8000000 in
theorem rest_8 (v : Nat → Int) (t : ByteArray) (w : World) (hk : v 0 = 8) :
    Calls Tryz.prog 67 #[.agg (factC v t), .agg (factC (baseK 8 (v 2)) ⟨#[]⟩)] w fun e W' => e = .returned (.tuple #[.agg (factC (keepV v) (keepT v t)), .bool (inB (v 1) 1 1000000 && inB (v 5) 1 1000 && inB (v 3) 0 1199 && inB (v 13) 0 100000000000)]) ∧ Below w.heap.size w W' := by
  have H0 := Lib.hid (fun W => id_calls (v 1) W)
  generalize inB (v 1) 1 1000000 = e0 at *
  have H1 := Lib.hid (fun W => within_calls (v 5) 1 1000 W)
  generalize inB (v 5) 1 1000 = e1 at *
  have H2 := Lib.hid (fun W => period_calls (v 3) W)
  generalize inB (v 3) 0 1199 = e2 at *
  have H3 := Lib.hid (fun W => within_calls (v 13) 0 100000000000 W)
  generalize inB (v 13) 0 100000000000 = e3 at *
  go_enter Tryz.func67, Tryz.ntmps67
  go_upto_region 1 with (fail)
  obtain ⟨W0, hW0, f0, g0, r0, b0⟩ := three_rows w (factC v t) (factC (baseK 8 (v 2)) ⟨#[]⟩) (factC zeroV ⟨#[]⟩) 40 40 40
  rw [hW0]
  clear hW0
  have F0 := Lib.hid f0
  have G0 := Lib.hid g0
  have R0 := Lib.hid r0
  have B0 := Lib.hid b0
  clear f0 g0 r0 b0
  obtain ⟨c0, -⟩ := row18 F0.out
  rw [hk] at c0
  go_upto_region 9 with (first
      | (refine wpList_load_fact rfl _ rfl w.heap.size rfl v t F0.out ?_)
      | (refine wpList_load_fact rfl _ rfl (w.heap.size + 1) rfl (baseK 8 (v 2)) ⟨#[]⟩ G0.out ?_)
      | (refine wpList_load_fact rfl _ rfl (w.heap.size + 2) rfl zeroV ⟨#[]⟩ R0.out ?_))
  clear c0
  obtain ⟨-, d1, -, d3, -, d5, -, -, -, -, -, -, -, d13, -⟩ := row18 F0.out
  obtain ⟨-, c1, -, c3, -, c5, -, -, -, -, -, -, -, c13, -⟩ := row18 G0.out
  have z1 : W0.frozen? ⟨(w.heap.size + 1), 1, none⟩ = false := frozen_of_row _ _ _ _ _ G0.out
  have z5 : W0.frozen? ⟨(w.heap.size + 1), 5, none⟩ = false := frozen_of_row _ _ _ _ _ G0.out
  have z3 : W0.frozen? ⟨(w.heap.size + 1), 3, none⟩ = false := frozen_of_row _ _ _ _ _ G0.out
  have z13 : W0.frozen? ⟨(w.heap.size + 1), 13, none⟩ = false := frozen_of_row _ _ _ _ _ G0.out
  go_region_held3 (fun w' => w'.cell? ⟨w.heap.size, 1, none⟩ = some (.int .i64 (v 1)) ∧ w'.cell? ⟨w.heap.size, 5, none⟩ = some (.int .i64 (v 5)) ∧ w'.cell? ⟨w.heap.size, 3, none⟩ = some (.int .i64 (v 3)) ∧ w'.cell? ⟨w.heap.size, 13, none⟩ = some (.int .i64 (v 13))) (go_keep) (fail)
  go_upto_region 10 with (first
      | (refine wpList_load_fact rfl _ rfl w.heap.size rfl v t F0.out ?_)
      | (refine wpList_load_fact rfl _ rfl (w.heap.size + 1) rfl (baseK 8 (v 2)) ⟨#[]⟩ G0.out ?_)
      | (refine wpList_load_fact rfl _ rfl (w.heap.size + 2) rfl zeroV ⟨#[]⟩ R0.out ?_))
  obtain ⟨W1, hW1, F1, G1, R1, B1⟩ : ∃ W1, ((((W0.setCell ⟨(w.heap.size + 1), 1, none⟩ (.int .i64 (v 1))).setCell ⟨(w.heap.size + 1), 5, none⟩ (.int .i64 (v 5))).setCell ⟨(w.heap.size + 1), 3, none⟩ (.int .i64 (v 3))).setCell ⟨(w.heap.size + 1), 13, none⟩ (.int .i64 (v 13))) = W1 ∧ Hid (W1.heap[w.heap.size]? = some (.cells (factC v t) 40 (0, 0))) ∧ Hid (W1.heap[(w.heap.size + 1)]? = some (.cells (factC (setF (setF (setF (setF (baseK 8 (v 2)) 1 (v 1)) 5 (v 5)) 3 (v 3)) 13 (v 13)) ⟨#[]⟩) 40 (0, 0))) ∧ Hid (W1.heap[(w.heap.size + 2)]? = some (.cells (factC zeroV ⟨#[]⟩) 40 (0, 0))) ∧ Hid (Below w.heap.size w W1) :=
    ⟨_, rfl, Lib.hid (other_cell 13 _ (by omega) (other_cell 3 _ (by omega) (other_cell 5 _ (by omega) (other_cell 1 _ (by omega) F0.out)))), Lib.hid (setF_cell 13 (v 13) (by omega) (setF_cell 3 (v 3) (by omega) (setF_cell 5 (v 5) (by omega) (setF_cell 1 (v 1) (by omega) G0.out)))), Lib.hid (other_cell 13 _ (by omega) (other_cell 3 _ (by omega) (other_cell 5 _ (by omega) (other_cell 1 _ (by omega) R0.out)))), Lib.hid ((((B0.out.setCell (p := ⟨(w.heap.size + 1), 1, none⟩) (show w.heap.size ≤ (w.heap.size + 1) by omega) _).setCell (p := ⟨(w.heap.size + 1), 5, none⟩) (show w.heap.size ≤ (w.heap.size + 1) by omega) _).setCell (p := ⟨(w.heap.size + 1), 3, none⟩) (show w.heap.size ≤ (w.heap.size + 1) by omega) _).setCell (p := ⟨(w.heap.size + 1), 13, none⟩) (show w.heap.size ≤ (w.heap.size + 1) by omega) _)⟩
  rw [hW1]
  clear hW1 F0 G0 R0 B0
  clear c1 z1 d1 c5 z5 d5 c3 z3 d3 c13 z13 d13
  have hkeep := keep_8 v t hk
  rw [hkeep] at G1
  clear hkeep hk
  have hone := factC_one (keepV v) (keepT v t)
  rcases e0 with _ | _
  · refine wp_region_mix (fun w' => w'.heap[w.heap.size]? = some (.cells (factC v t) 40 (0, 0)) ∧ w'.heap[(w.heap.size + 1)]? = some (.cells (factC (keepV v) (keepT v t)) 40 (0, 0))) [true, true, true, true, true, true, true, true, true, true, true, true, true, true, true, true, true, true, true, false, true] (by kernel_rfl) (by kernel_rfl) ⟨F1.out, G1.out⟩ ?_
    refine mix_load_fact (by rfl) _ rfl (w.heap.size + 1) rfl (keepV v) (keepT v t) (fun _ hc => hc.2) ?_
    simp only [Act.put, List.setIfInBounds_toArray, List.set_cons_zero, List.set_cons_succ]
    refine mix_val (.pointer (some ⟨w.heap.size, 1, none⟩)) (by rfl) (fun _ _ => by go_simp) ?_
    simp only [Act.put, List.setIfInBounds_toArray, List.set_cons_zero, List.set_cons_succ]
    refine mix_load_int (by rfl) _ rfl ⟨w.heap.size, 1, none⟩ rfl (.int .i64 (v 1)) (fun _ hc => fact_cell 1 (by decide) hc.1) ?_
    simp only [Act.put, List.setIfInBounds_toArray, List.set_cons_zero, List.set_cons_succ]
    refine mix_call 64 #[.int .i64 (v 1)] (.bool false) (by rfl) (fun _ => by go_simp) H0.out ?_
    simp only [Act.put, List.setIfInBounds_toArray, List.set_cons_zero, List.set_cons_succ]
    refine mix_val (.bool false) (by rfl) (fun _ _ => by rfl) ?_
    simp only [Act.put, List.setIfInBounds_toArray, List.set_cons_zero, List.set_cons_succ]
    refine mix_off (by rfl) ?_
    simp only [Act.put, List.setIfInBounds_toArray, List.set_cons_zero, List.set_cons_succ]
    refine mix_off (by rfl) ?_
    simp only [Act.put, List.setIfInBounds_toArray, List.set_cons_zero, List.set_cons_succ]
    refine mix_off (by rfl) ?_
    simp only [Act.put, List.setIfInBounds_toArray, List.set_cons_zero, List.set_cons_succ]
    refine mix_val (.bool false) (by rfl) (fun _ _ => by rfl) ?_
    simp only [Act.put, List.setIfInBounds_toArray, List.set_cons_zero, List.set_cons_succ]
    refine mix_val (.bool false) (by rfl) (fun _ _ => by rfl) ?_
    simp only [Act.put, List.setIfInBounds_toArray, List.set_cons_zero, List.set_cons_succ]
    refine mix_off (by rfl) ?_
    simp only [Act.put, List.setIfInBounds_toArray, List.set_cons_zero, List.set_cons_succ]
    refine mix_off (by rfl) ?_
    simp only [Act.put, List.setIfInBounds_toArray, List.set_cons_zero, List.set_cons_succ]
    refine mix_off (by rfl) ?_
    simp only [Act.put, List.setIfInBounds_toArray, List.set_cons_zero, List.set_cons_succ]
    refine mix_val (.bool false) (by rfl) (fun _ _ => by rfl) ?_
    simp only [Act.put, List.setIfInBounds_toArray, List.set_cons_zero, List.set_cons_succ]
    refine mix_val (.bool false) (by rfl) (fun _ _ => by rfl) ?_
    simp only [Act.put, List.setIfInBounds_toArray, List.set_cons_zero, List.set_cons_succ]
    refine mix_off (by rfl) ?_
    simp only [Act.put, List.setIfInBounds_toArray, List.set_cons_zero, List.set_cons_succ]
    refine mix_off (by rfl) ?_
    simp only [Act.put, List.setIfInBounds_toArray, List.set_cons_zero, List.set_cons_succ]
    refine mix_off (by rfl) ?_
    simp only [Act.put, List.setIfInBounds_toArray, List.set_cons_zero, List.set_cons_succ]
    refine mix_val (.bool false) (by rfl) (fun _ _ => by rfl) ?_
    simp only [Act.put, List.setIfInBounds_toArray, List.set_cons_zero, List.set_cons_succ]
    refine mix_store_fact (by rfl) _ _ rfl (w.heap.size + 2) (keepV v) (keepT v t) rfl rfl _ R1.out rfl hone ⟨(setRow_other _ _ _ _ (by omega)).trans F1.out, (setRow_other _ _ _ _ (by omega)).trans G1.out⟩ ?_
    simp only [Act.put]
    refine mix_val (.bool false) (by rfl) (fun _ _ => by rfl) ?_
    simp only [Act.put, List.setIfInBounds_toArray, List.set_cons_zero, List.set_cons_succ]
    refine mix_done ?_
    go_wp2_with fail
    refine bodyPost_ret (results_fact_tmp rfl _ _ (w.heap.size + 2) (keepV v) (keepT v t) _ rfl (setRow_heap _ _ _ _ _ _ R1.out) rfl) rfl ?_
    exact ⟨rfl, below_setRow' (Below.drew (Below.drew (B1.out))) _ _ (by omega)⟩
  rcases e1 with _ | _
  · refine wp_region_mix (fun w' => w'.heap[w.heap.size]? = some (.cells (factC v t) 40 (0, 0)) ∧ w'.heap[(w.heap.size + 1)]? = some (.cells (factC (keepV v) (keepT v t)) 40 (0, 0))) [true, true, true, true, true, true, true, true, true, true, true, true, true, true, true, true, true, true, true, false, true] (by kernel_rfl) (by kernel_rfl) ⟨F1.out, G1.out⟩ ?_
    refine mix_load_fact (by rfl) _ rfl (w.heap.size + 1) rfl (keepV v) (keepT v t) (fun _ hc => hc.2) ?_
    simp only [Act.put, List.setIfInBounds_toArray, List.set_cons_zero, List.set_cons_succ]
    refine mix_val (.pointer (some ⟨w.heap.size, 1, none⟩)) (by rfl) (fun _ _ => by go_simp) ?_
    simp only [Act.put, List.setIfInBounds_toArray, List.set_cons_zero, List.set_cons_succ]
    refine mix_load_int (by rfl) _ rfl ⟨w.heap.size, 1, none⟩ rfl (.int .i64 (v 1)) (fun _ hc => fact_cell 1 (by decide) hc.1) ?_
    simp only [Act.put, List.setIfInBounds_toArray, List.set_cons_zero, List.set_cons_succ]
    refine mix_call 64 #[.int .i64 (v 1)] (.bool true) (by rfl) (fun _ => by go_simp) H0.out ?_
    simp only [Act.put, List.setIfInBounds_toArray, List.set_cons_zero, List.set_cons_succ]
    refine mix_val (.bool true) (by rfl) (fun _ _ => by rfl) ?_
    simp only [Act.put, List.setIfInBounds_toArray, List.set_cons_zero, List.set_cons_succ]
    refine mix_val (.pointer (some ⟨w.heap.size, 5, none⟩)) (by rfl) (fun _ _ => by go_simp) ?_
    simp only [Act.put, List.setIfInBounds_toArray, List.set_cons_zero, List.set_cons_succ]
    refine mix_load_int (by rfl) _ rfl ⟨w.heap.size, 5, none⟩ rfl (.int .i64 (v 5)) (fun _ hc => fact_cell 5 (by decide) hc.1) ?_
    simp only [Act.put, List.setIfInBounds_toArray, List.set_cons_zero, List.set_cons_succ]
    refine mix_call 49 #[.int .i64 (v 5), .int .i64 1, .int .i64 1000] (.bool false) (by rfl) (fun _ => by go_simp) H1.out ?_
    simp only [Act.put, List.setIfInBounds_toArray, List.set_cons_zero, List.set_cons_succ]
    refine mix_val (.bool false) (by rfl) (fun _ _ => by rfl) ?_
    simp only [Act.put, List.setIfInBounds_toArray, List.set_cons_zero, List.set_cons_succ]
    refine mix_val (.bool false) (by rfl) (fun _ _ => by rfl) ?_
    simp only [Act.put, List.setIfInBounds_toArray, List.set_cons_zero, List.set_cons_succ]
    refine mix_off (by rfl) ?_
    simp only [Act.put, List.setIfInBounds_toArray, List.set_cons_zero, List.set_cons_succ]
    refine mix_off (by rfl) ?_
    simp only [Act.put, List.setIfInBounds_toArray, List.set_cons_zero, List.set_cons_succ]
    refine mix_off (by rfl) ?_
    simp only [Act.put, List.setIfInBounds_toArray, List.set_cons_zero, List.set_cons_succ]
    refine mix_val (.bool false) (by rfl) (fun _ _ => by rfl) ?_
    simp only [Act.put, List.setIfInBounds_toArray, List.set_cons_zero, List.set_cons_succ]
    refine mix_val (.bool false) (by rfl) (fun _ _ => by rfl) ?_
    simp only [Act.put, List.setIfInBounds_toArray, List.set_cons_zero, List.set_cons_succ]
    refine mix_off (by rfl) ?_
    simp only [Act.put, List.setIfInBounds_toArray, List.set_cons_zero, List.set_cons_succ]
    refine mix_off (by rfl) ?_
    simp only [Act.put, List.setIfInBounds_toArray, List.set_cons_zero, List.set_cons_succ]
    refine mix_off (by rfl) ?_
    simp only [Act.put, List.setIfInBounds_toArray, List.set_cons_zero, List.set_cons_succ]
    refine mix_val (.bool false) (by rfl) (fun _ _ => by rfl) ?_
    simp only [Act.put, List.setIfInBounds_toArray, List.set_cons_zero, List.set_cons_succ]
    refine mix_store_fact (by rfl) _ _ rfl (w.heap.size + 2) (keepV v) (keepT v t) rfl rfl _ R1.out rfl hone ⟨(setRow_other _ _ _ _ (by omega)).trans F1.out, (setRow_other _ _ _ _ (by omega)).trans G1.out⟩ ?_
    simp only [Act.put]
    refine mix_val (.bool false) (by rfl) (fun _ _ => by rfl) ?_
    simp only [Act.put, List.setIfInBounds_toArray, List.set_cons_zero, List.set_cons_succ]
    refine mix_done ?_
    go_wp2_with fail
    refine bodyPost_ret (results_fact_tmp rfl _ _ (w.heap.size + 2) (keepV v) (keepT v t) _ rfl (setRow_heap _ _ _ _ _ _ R1.out) rfl) rfl ?_
    exact ⟨rfl, below_setRow' (Below.drew (Below.drew (B1.out))) _ _ (by omega)⟩
  rcases e2 with _ | _
  · refine wp_region_mix (fun w' => w'.heap[w.heap.size]? = some (.cells (factC v t) 40 (0, 0)) ∧ w'.heap[(w.heap.size + 1)]? = some (.cells (factC (keepV v) (keepT v t)) 40 (0, 0))) [true, true, true, true, true, true, true, true, true, true, true, true, true, true, true, true, true, true, true, false, true] (by kernel_rfl) (by kernel_rfl) ⟨F1.out, G1.out⟩ ?_
    refine mix_load_fact (by rfl) _ rfl (w.heap.size + 1) rfl (keepV v) (keepT v t) (fun _ hc => hc.2) ?_
    simp only [Act.put, List.setIfInBounds_toArray, List.set_cons_zero, List.set_cons_succ]
    refine mix_val (.pointer (some ⟨w.heap.size, 1, none⟩)) (by rfl) (fun _ _ => by go_simp) ?_
    simp only [Act.put, List.setIfInBounds_toArray, List.set_cons_zero, List.set_cons_succ]
    refine mix_load_int (by rfl) _ rfl ⟨w.heap.size, 1, none⟩ rfl (.int .i64 (v 1)) (fun _ hc => fact_cell 1 (by decide) hc.1) ?_
    simp only [Act.put, List.setIfInBounds_toArray, List.set_cons_zero, List.set_cons_succ]
    refine mix_call 64 #[.int .i64 (v 1)] (.bool true) (by rfl) (fun _ => by go_simp) H0.out ?_
    simp only [Act.put, List.setIfInBounds_toArray, List.set_cons_zero, List.set_cons_succ]
    refine mix_val (.bool true) (by rfl) (fun _ _ => by rfl) ?_
    simp only [Act.put, List.setIfInBounds_toArray, List.set_cons_zero, List.set_cons_succ]
    refine mix_val (.pointer (some ⟨w.heap.size, 5, none⟩)) (by rfl) (fun _ _ => by go_simp) ?_
    simp only [Act.put, List.setIfInBounds_toArray, List.set_cons_zero, List.set_cons_succ]
    refine mix_load_int (by rfl) _ rfl ⟨w.heap.size, 5, none⟩ rfl (.int .i64 (v 5)) (fun _ hc => fact_cell 5 (by decide) hc.1) ?_
    simp only [Act.put, List.setIfInBounds_toArray, List.set_cons_zero, List.set_cons_succ]
    refine mix_call 49 #[.int .i64 (v 5), .int .i64 1, .int .i64 1000] (.bool true) (by rfl) (fun _ => by go_simp) H1.out ?_
    simp only [Act.put, List.setIfInBounds_toArray, List.set_cons_zero, List.set_cons_succ]
    refine mix_val (.bool true) (by rfl) (fun _ _ => by rfl) ?_
    simp only [Act.put, List.setIfInBounds_toArray, List.set_cons_zero, List.set_cons_succ]
    refine mix_val (.bool true) (by rfl) (fun _ _ => by rfl) ?_
    simp only [Act.put, List.setIfInBounds_toArray, List.set_cons_zero, List.set_cons_succ]
    refine mix_val (.pointer (some ⟨w.heap.size, 3, none⟩)) (by rfl) (fun _ _ => by go_simp) ?_
    simp only [Act.put, List.setIfInBounds_toArray, List.set_cons_zero, List.set_cons_succ]
    refine mix_load_int (by rfl) _ rfl ⟨w.heap.size, 3, none⟩ rfl (.int .i64 (v 3)) (fun _ hc => fact_cell 3 (by decide) hc.1) ?_
    simp only [Act.put, List.setIfInBounds_toArray, List.set_cons_zero, List.set_cons_succ]
    refine mix_call 66 #[.int .i64 (v 3)] (.bool false) (by rfl) (fun _ => by go_simp) H2.out ?_
    simp only [Act.put, List.setIfInBounds_toArray, List.set_cons_zero, List.set_cons_succ]
    refine mix_val (.bool false) (by rfl) (fun _ _ => by rfl) ?_
    simp only [Act.put, List.setIfInBounds_toArray, List.set_cons_zero, List.set_cons_succ]
    refine mix_val (.bool false) (by rfl) (fun _ _ => by rfl) ?_
    simp only [Act.put, List.setIfInBounds_toArray, List.set_cons_zero, List.set_cons_succ]
    refine mix_off (by rfl) ?_
    simp only [Act.put, List.setIfInBounds_toArray, List.set_cons_zero, List.set_cons_succ]
    refine mix_off (by rfl) ?_
    simp only [Act.put, List.setIfInBounds_toArray, List.set_cons_zero, List.set_cons_succ]
    refine mix_off (by rfl) ?_
    simp only [Act.put, List.setIfInBounds_toArray, List.set_cons_zero, List.set_cons_succ]
    refine mix_val (.bool false) (by rfl) (fun _ _ => by rfl) ?_
    simp only [Act.put, List.setIfInBounds_toArray, List.set_cons_zero, List.set_cons_succ]
    refine mix_store_fact (by rfl) _ _ rfl (w.heap.size + 2) (keepV v) (keepT v t) rfl rfl _ R1.out rfl hone ⟨(setRow_other _ _ _ _ (by omega)).trans F1.out, (setRow_other _ _ _ _ (by omega)).trans G1.out⟩ ?_
    simp only [Act.put]
    refine mix_val (.bool false) (by rfl) (fun _ _ => by rfl) ?_
    simp only [Act.put, List.setIfInBounds_toArray, List.set_cons_zero, List.set_cons_succ]
    refine mix_done ?_
    go_wp2_with fail
    refine bodyPost_ret (results_fact_tmp rfl _ _ (w.heap.size + 2) (keepV v) (keepT v t) _ rfl (setRow_heap _ _ _ _ _ _ R1.out) rfl) rfl ?_
    exact ⟨rfl, below_setRow' (Below.drew (Below.drew (B1.out))) _ _ (by omega)⟩
  rcases e3 with _ | _
  · refine wp_region_mix (fun w' => w'.heap[w.heap.size]? = some (.cells (factC v t) 40 (0, 0)) ∧ w'.heap[(w.heap.size + 1)]? = some (.cells (factC (keepV v) (keepT v t)) 40 (0, 0))) [true, true, true, true, true, true, true, true, true, true, true, true, true, true, true, true, true, true, true, false, true] (by kernel_rfl) (by kernel_rfl) ⟨F1.out, G1.out⟩ ?_
    refine mix_load_fact (by rfl) _ rfl (w.heap.size + 1) rfl (keepV v) (keepT v t) (fun _ hc => hc.2) ?_
    simp only [Act.put, List.setIfInBounds_toArray, List.set_cons_zero, List.set_cons_succ]
    refine mix_val (.pointer (some ⟨w.heap.size, 1, none⟩)) (by rfl) (fun _ _ => by go_simp) ?_
    simp only [Act.put, List.setIfInBounds_toArray, List.set_cons_zero, List.set_cons_succ]
    refine mix_load_int (by rfl) _ rfl ⟨w.heap.size, 1, none⟩ rfl (.int .i64 (v 1)) (fun _ hc => fact_cell 1 (by decide) hc.1) ?_
    simp only [Act.put, List.setIfInBounds_toArray, List.set_cons_zero, List.set_cons_succ]
    refine mix_call 64 #[.int .i64 (v 1)] (.bool true) (by rfl) (fun _ => by go_simp) H0.out ?_
    simp only [Act.put, List.setIfInBounds_toArray, List.set_cons_zero, List.set_cons_succ]
    refine mix_val (.bool true) (by rfl) (fun _ _ => by rfl) ?_
    simp only [Act.put, List.setIfInBounds_toArray, List.set_cons_zero, List.set_cons_succ]
    refine mix_val (.pointer (some ⟨w.heap.size, 5, none⟩)) (by rfl) (fun _ _ => by go_simp) ?_
    simp only [Act.put, List.setIfInBounds_toArray, List.set_cons_zero, List.set_cons_succ]
    refine mix_load_int (by rfl) _ rfl ⟨w.heap.size, 5, none⟩ rfl (.int .i64 (v 5)) (fun _ hc => fact_cell 5 (by decide) hc.1) ?_
    simp only [Act.put, List.setIfInBounds_toArray, List.set_cons_zero, List.set_cons_succ]
    refine mix_call 49 #[.int .i64 (v 5), .int .i64 1, .int .i64 1000] (.bool true) (by rfl) (fun _ => by go_simp) H1.out ?_
    simp only [Act.put, List.setIfInBounds_toArray, List.set_cons_zero, List.set_cons_succ]
    refine mix_val (.bool true) (by rfl) (fun _ _ => by rfl) ?_
    simp only [Act.put, List.setIfInBounds_toArray, List.set_cons_zero, List.set_cons_succ]
    refine mix_val (.bool true) (by rfl) (fun _ _ => by rfl) ?_
    simp only [Act.put, List.setIfInBounds_toArray, List.set_cons_zero, List.set_cons_succ]
    refine mix_val (.pointer (some ⟨w.heap.size, 3, none⟩)) (by rfl) (fun _ _ => by go_simp) ?_
    simp only [Act.put, List.setIfInBounds_toArray, List.set_cons_zero, List.set_cons_succ]
    refine mix_load_int (by rfl) _ rfl ⟨w.heap.size, 3, none⟩ rfl (.int .i64 (v 3)) (fun _ hc => fact_cell 3 (by decide) hc.1) ?_
    simp only [Act.put, List.setIfInBounds_toArray, List.set_cons_zero, List.set_cons_succ]
    refine mix_call 66 #[.int .i64 (v 3)] (.bool true) (by rfl) (fun _ => by go_simp) H2.out ?_
    simp only [Act.put, List.setIfInBounds_toArray, List.set_cons_zero, List.set_cons_succ]
    refine mix_val (.bool true) (by rfl) (fun _ _ => by rfl) ?_
    simp only [Act.put, List.setIfInBounds_toArray, List.set_cons_zero, List.set_cons_succ]
    refine mix_val (.bool true) (by rfl) (fun _ _ => by rfl) ?_
    simp only [Act.put, List.setIfInBounds_toArray, List.set_cons_zero, List.set_cons_succ]
    refine mix_val (.pointer (some ⟨w.heap.size, 13, none⟩)) (by rfl) (fun _ _ => by go_simp) ?_
    simp only [Act.put, List.setIfInBounds_toArray, List.set_cons_zero, List.set_cons_succ]
    refine mix_load_int (by rfl) _ rfl ⟨w.heap.size, 13, none⟩ rfl (.int .i64 (v 13)) (fun _ hc => fact_cell 13 (by decide) hc.1) ?_
    simp only [Act.put, List.setIfInBounds_toArray, List.set_cons_zero, List.set_cons_succ]
    refine mix_call 49 #[.int .i64 (v 13), .int .i64 0, .int .i64 100000000000] (.bool false) (by rfl) (fun _ => by go_simp) H3.out ?_
    simp only [Act.put, List.setIfInBounds_toArray, List.set_cons_zero, List.set_cons_succ]
    refine mix_val (.bool false) (by rfl) (fun _ _ => by rfl) ?_
    simp only [Act.put, List.setIfInBounds_toArray, List.set_cons_zero, List.set_cons_succ]
    refine mix_store_fact (by rfl) _ _ rfl (w.heap.size + 2) (keepV v) (keepT v t) rfl rfl _ R1.out rfl hone ⟨(setRow_other _ _ _ _ (by omega)).trans F1.out, (setRow_other _ _ _ _ (by omega)).trans G1.out⟩ ?_
    simp only [Act.put]
    refine mix_val (.bool false) (by rfl) (fun _ _ => by rfl) ?_
    simp only [Act.put, List.setIfInBounds_toArray, List.set_cons_zero, List.set_cons_succ]
    refine mix_done ?_
    go_wp2_with fail
    refine bodyPost_ret (results_fact_tmp rfl _ _ (w.heap.size + 2) (keepV v) (keepT v t) _ rfl (setRow_heap _ _ _ _ _ _ R1.out) rfl) rfl ?_
    exact ⟨rfl, below_setRow' (Below.drew (Below.drew (B1.out))) _ _ (by omega)⟩
  refine wp_region_mix (fun w' => w'.heap[w.heap.size]? = some (.cells (factC v t) 40 (0, 0)) ∧ w'.heap[(w.heap.size + 1)]? = some (.cells (factC (keepV v) (keepT v t)) 40 (0, 0))) [true, true, true, true, true, true, true, true, true, true, true, true, true, true, true, true, true, true, true, false, true] (by kernel_rfl) (by kernel_rfl) ⟨F1.out, G1.out⟩ ?_
  refine mix_load_fact (by rfl) _ rfl (w.heap.size + 1) rfl (keepV v) (keepT v t) (fun _ hc => hc.2) ?_
  simp only [Act.put, List.setIfInBounds_toArray, List.set_cons_zero, List.set_cons_succ]
  refine mix_val (.pointer (some ⟨w.heap.size, 1, none⟩)) (by rfl) (fun _ _ => by go_simp) ?_
  simp only [Act.put, List.setIfInBounds_toArray, List.set_cons_zero, List.set_cons_succ]
  refine mix_load_int (by rfl) _ rfl ⟨w.heap.size, 1, none⟩ rfl (.int .i64 (v 1)) (fun _ hc => fact_cell 1 (by decide) hc.1) ?_
  simp only [Act.put, List.setIfInBounds_toArray, List.set_cons_zero, List.set_cons_succ]
  refine mix_call 64 #[.int .i64 (v 1)] (.bool true) (by rfl) (fun _ => by go_simp) H0.out ?_
  simp only [Act.put, List.setIfInBounds_toArray, List.set_cons_zero, List.set_cons_succ]
  refine mix_val (.bool true) (by rfl) (fun _ _ => by rfl) ?_
  simp only [Act.put, List.setIfInBounds_toArray, List.set_cons_zero, List.set_cons_succ]
  refine mix_val (.pointer (some ⟨w.heap.size, 5, none⟩)) (by rfl) (fun _ _ => by go_simp) ?_
  simp only [Act.put, List.setIfInBounds_toArray, List.set_cons_zero, List.set_cons_succ]
  refine mix_load_int (by rfl) _ rfl ⟨w.heap.size, 5, none⟩ rfl (.int .i64 (v 5)) (fun _ hc => fact_cell 5 (by decide) hc.1) ?_
  simp only [Act.put, List.setIfInBounds_toArray, List.set_cons_zero, List.set_cons_succ]
  refine mix_call 49 #[.int .i64 (v 5), .int .i64 1, .int .i64 1000] (.bool true) (by rfl) (fun _ => by go_simp) H1.out ?_
  simp only [Act.put, List.setIfInBounds_toArray, List.set_cons_zero, List.set_cons_succ]
  refine mix_val (.bool true) (by rfl) (fun _ _ => by rfl) ?_
  simp only [Act.put, List.setIfInBounds_toArray, List.set_cons_zero, List.set_cons_succ]
  refine mix_val (.bool true) (by rfl) (fun _ _ => by rfl) ?_
  simp only [Act.put, List.setIfInBounds_toArray, List.set_cons_zero, List.set_cons_succ]
  refine mix_val (.pointer (some ⟨w.heap.size, 3, none⟩)) (by rfl) (fun _ _ => by go_simp) ?_
  simp only [Act.put, List.setIfInBounds_toArray, List.set_cons_zero, List.set_cons_succ]
  refine mix_load_int (by rfl) _ rfl ⟨w.heap.size, 3, none⟩ rfl (.int .i64 (v 3)) (fun _ hc => fact_cell 3 (by decide) hc.1) ?_
  simp only [Act.put, List.setIfInBounds_toArray, List.set_cons_zero, List.set_cons_succ]
  refine mix_call 66 #[.int .i64 (v 3)] (.bool true) (by rfl) (fun _ => by go_simp) H2.out ?_
  simp only [Act.put, List.setIfInBounds_toArray, List.set_cons_zero, List.set_cons_succ]
  refine mix_val (.bool true) (by rfl) (fun _ _ => by rfl) ?_
  simp only [Act.put, List.setIfInBounds_toArray, List.set_cons_zero, List.set_cons_succ]
  refine mix_val (.bool true) (by rfl) (fun _ _ => by rfl) ?_
  simp only [Act.put, List.setIfInBounds_toArray, List.set_cons_zero, List.set_cons_succ]
  refine mix_val (.pointer (some ⟨w.heap.size, 13, none⟩)) (by rfl) (fun _ _ => by go_simp) ?_
  simp only [Act.put, List.setIfInBounds_toArray, List.set_cons_zero, List.set_cons_succ]
  refine mix_load_int (by rfl) _ rfl ⟨w.heap.size, 13, none⟩ rfl (.int .i64 (v 13)) (fun _ hc => fact_cell 13 (by decide) hc.1) ?_
  simp only [Act.put, List.setIfInBounds_toArray, List.set_cons_zero, List.set_cons_succ]
  refine mix_call 49 #[.int .i64 (v 13), .int .i64 0, .int .i64 100000000000] (.bool true) (by rfl) (fun _ => by go_simp) H3.out ?_
  simp only [Act.put, List.setIfInBounds_toArray, List.set_cons_zero, List.set_cons_succ]
  refine mix_val (.bool true) (by rfl) (fun _ _ => by rfl) ?_
  simp only [Act.put, List.setIfInBounds_toArray, List.set_cons_zero, List.set_cons_succ]
  refine mix_store_fact (by rfl) _ _ rfl (w.heap.size + 2) (keepV v) (keepT v t) rfl rfl _ R1.out rfl hone ⟨(setRow_other _ _ _ _ (by omega)).trans F1.out, (setRow_other _ _ _ _ (by omega)).trans G1.out⟩ ?_
  simp only [Act.put]
  refine mix_val (.bool true) (by rfl) (fun _ _ => by rfl) ?_
  simp only [Act.put, List.setIfInBounds_toArray, List.set_cons_zero, List.set_cons_succ]
  refine mix_done ?_
  go_wp2_with fail
  refine bodyPost_ret (results_fact_tmp rfl _ _ (w.heap.size + 2) (keepV v) (keepT v t) _ rfl (setRow_heap _ _ _ _ _ _ R1.out) rfl) rfl ?_
  exact ⟨rfl, below_setRow' (Below.drew (Below.drew (B1.out))) _ _ (by omega)⟩

end Go.Proofs.YtnndnjnpkjpkpaaGreatDoor
