/- The reference implementation's fields and rest, for kinds 9, 10: the fact with the fields of its kind alone, and whether they are as they must be. No further condition. -/
import Derived.Test.YtnndnjnpkjpkpaaGreatDoorRfA
import Derived.Test.YtnndnjnpkjpkpaaGreatDoorMix
import Derived.Deep.RegionHeld3
namespace Go.Proofs.YtnndnjnpkjpkpaaGreatDoor
open Go.RowKit

set_option maxRecDepth 100000 in
set_option maxHeartbeats 8000000 in
theorem rest_9 (v : Nat → Int) (t : ByteArray) (w : World) (hk : v 0 = 9) :
    Calls Tryz.prog 67 #[.agg (factC v t), .agg (factC (baseK 9 (v 2)) ⟨#[]⟩)] w fun e W' => e = .returned (.tuple #[.agg (factC (keepV v) (keepT v t)), .bool (inB (v 11) 0 1199 && decide ((t.size : Int) ≤ 2000))]) ∧ Below w.heap.size w W' := by
  have H0 := Lib.hid (fun W => period_calls (v 11) W)
  generalize inB (v 11) 0 1199 = e0 at *
  generalize he1 : decide ((t.size : Int) ≤ 2000) = e1 at *
  go_enter Tryz.func67, Tryz.ntmps67
  go_upto_region 1 with (fail)
  obtain ⟨W0, hW0, f0, g0, r0, b0⟩ := three_rows w (factC v t) (factC (baseK 9 (v 2)) ⟨#[]⟩) (factC zeroV ⟨#[]⟩) 40 40 40
  rw [hW0]
  clear hW0
  have F0 := Lib.hid f0
  have G0 := Lib.hid g0
  have R0 := Lib.hid r0
  have B0 := Lib.hid b0
  clear f0 g0 r0 b0
  obtain ⟨c0, -⟩ := row18 F0.out
  rw [hk] at c0
  go_upto_region 12 with (first
      | (refine wpList_load_fact rfl _ rfl w.heap.size rfl v t F0.out ?_)
      | (refine wpList_load_fact rfl _ rfl (w.heap.size + 1) rfl (baseK 9 (v 2)) ⟨#[]⟩ G0.out ?_)
      | (refine wpList_load_fact rfl _ rfl (w.heap.size + 2) rfl zeroV ⟨#[]⟩ R0.out ?_))
  clear c0
  obtain ⟨-, -, -, -, -, -, -, -, -, -, -, d11, -, -, -, -, -, d17⟩ := row18 F0.out
  obtain ⟨-, -, -, -, -, -, -, -, -, -, -, c11, -, -, -, -, -, c17⟩ := row18 G0.out
  have z11 : W0.frozen? ⟨(w.heap.size + 1), 11, none⟩ = false := frozen_of_row _ _ _ _ _ G0.out
  have z17 : W0.frozen? ⟨(w.heap.size + 1), 17, none⟩ = false := frozen_of_row _ _ _ _ _ G0.out
  go_region_held3 (fun w' => w'.cell? ⟨w.heap.size, 11, none⟩ = some (.int .i64 (v 11)) ∧ w'.cell? ⟨w.heap.size, 17, none⟩ = some (.string t)) (go_keep) (fail)
  go_upto_region 13 with (first
      | (refine wpList_load_fact rfl _ rfl w.heap.size rfl v t F0.out ?_)
      | (refine wpList_load_fact rfl _ rfl (w.heap.size + 1) rfl (baseK 9 (v 2)) ⟨#[]⟩ G0.out ?_)
      | (refine wpList_load_fact rfl _ rfl (w.heap.size + 2) rfl zeroV ⟨#[]⟩ R0.out ?_))
  obtain ⟨W1, hW1, F1, G1, R1, B1⟩ : ∃ W1, ((W0.setCell ⟨(w.heap.size + 1), 11, none⟩ (.int .i64 (v 11))).setCell ⟨(w.heap.size + 1), 17, none⟩ (.string t)) = W1 ∧ Hid (W1.heap[w.heap.size]? = some (.cells (factC v t) 40 (0, 0))) ∧ Hid (W1.heap[(w.heap.size + 1)]? = some (.cells (factC (setF (baseK 9 (v 2)) 11 (v 11)) t) 40 (0, 0))) ∧ Hid (W1.heap[(w.heap.size + 2)]? = some (.cells (factC zeroV ⟨#[]⟩) 40 (0, 0))) ∧ Hid (Below w.heap.size w W1) :=
    ⟨_, rfl, Lib.hid (other_cell 17 _ (by omega) (other_cell 11 _ (by omega) F0.out)), Lib.hid (setF_text t (setF_cell 11 (v 11) (by omega) G0.out)), Lib.hid (other_cell 17 _ (by omega) (other_cell 11 _ (by omega) R0.out)), Lib.hid ((B0.out.setCell (p := ⟨(w.heap.size + 1), 11, none⟩) (show w.heap.size ≤ (w.heap.size + 1) by omega) _).setCell (p := ⟨(w.heap.size + 1), 17, none⟩) (show w.heap.size ≤ (w.heap.size + 1) by omega) _)⟩
  rw [hW1]
  clear hW1 F0 G0 R0 B0
  clear c11 z11 d11 c17 z17 d17
  have hkeep := keep_9 v t hk
  rw [hkeep] at G1
  clear hkeep hk
  have hone := factC_one (keepV v) (keepT v t)
  rcases e0 with _ | _
  · refine wp_region_mix (fun w' => w'.heap[w.heap.size]? = some (.cells (factC v t) 40 (0, 0)) ∧ w'.heap[(w.heap.size + 1)]? = some (.cells (factC (keepV v) (keepT v t)) 40 (0, 0))) [true, true, true, true, true, true, true, true, true, true, false, true] (by kernel_rfl) (by kernel_rfl) ⟨F1.out, G1.out⟩ ?_
    refine mix_load_fact (by rfl) _ rfl (w.heap.size + 1) rfl (keepV v) (keepT v t) (fun _ hc => hc.2) ?_
    simp only [Act.put, List.setIfInBounds_toArray, List.set_cons_zero, List.set_cons_succ]
    refine mix_val (.pointer (some ⟨w.heap.size, 11, none⟩)) (by rfl) (fun _ _ => by go_simp) ?_
    simp only [Act.put, List.setIfInBounds_toArray, List.set_cons_zero, List.set_cons_succ]
    refine mix_load_int (by rfl) _ rfl ⟨w.heap.size, 11, none⟩ rfl (.int .i64 (v 11)) (fun _ hc => fact_cell 11 (by decide) hc.1) ?_
    simp only [Act.put, List.setIfInBounds_toArray, List.set_cons_zero, List.set_cons_succ]
    refine mix_call 66 #[.int .i64 (v 11)] (.bool false) (by rfl) (fun _ => by go_simp) H0.out ?_
    simp only [Act.put, List.setIfInBounds_toArray, List.set_cons_zero, List.set_cons_succ]
    refine mix_val (.bool false) (by rfl) (fun _ _ => by rfl) ?_
    simp only [Act.put, List.setIfInBounds_toArray, List.set_cons_zero, List.set_cons_succ]
    refine mix_off (by rfl) ?_
    simp only [Act.put, List.setIfInBounds_toArray, List.set_cons_zero, List.set_cons_succ]
    refine mix_off (by rfl) ?_
    simp only [Act.put, List.setIfInBounds_toArray, List.set_cons_zero, List.set_cons_succ]
    refine mix_off (by rfl) ?_
    simp only [Act.put, List.setIfInBounds_toArray, List.set_cons_zero, List.set_cons_succ]
    refine mix_off (by rfl) ?_
    simp only [Act.put, List.setIfInBounds_toArray, List.set_cons_zero, List.set_cons_succ]
    refine mix_val (.bool false) (by rfl) (fun _ _ => by rfl) ?_
    simp only [Act.put, List.setIfInBounds_toArray, List.set_cons_zero, List.set_cons_succ]
    refine mix_store_fact (by rfl) _ _ rfl (w.heap.size + 2) (keepV v) (keepT v t) rfl rfl _ R1.out rfl hone ⟨(setRow_other _ _ _ _ (by omega)).trans F1.out, (setRow_other _ _ _ _ (by omega)).trans G1.out⟩ ?_
    simp only [Act.put]
    refine mix_val (.bool false) (by rfl) (fun _ _ => by rfl) ?_
    simp only [Act.put, List.setIfInBounds_toArray, List.set_cons_zero, List.set_cons_succ]
    refine mix_done ?_
    go_wp2_with fail
    refine bodyPost_ret (results_fact_tmp rfl _ _ (w.heap.size + 2) (keepV v) (keepT v t) _ rfl (setRow_heap _ _ _ _ _ _ R1.out) rfl) rfl ?_
    exact ⟨rfl, below_setRow' (Below.drew (Below.drew (B1.out))) _ _ (by omega)⟩
  rcases e1 with _ | _
  · refine wp_region_mix (fun w' => w'.heap[w.heap.size]? = some (.cells (factC v t) 40 (0, 0)) ∧ w'.heap[(w.heap.size + 1)]? = some (.cells (factC (keepV v) (keepT v t)) 40 (0, 0))) [true, true, true, true, true, true, true, true, true, true, false, true] (by kernel_rfl) (by kernel_rfl) ⟨F1.out, G1.out⟩ ?_
    refine mix_load_fact (by rfl) _ rfl (w.heap.size + 1) rfl (keepV v) (keepT v t) (fun _ hc => hc.2) ?_
    simp only [Act.put, List.setIfInBounds_toArray, List.set_cons_zero, List.set_cons_succ]
    refine mix_val (.pointer (some ⟨w.heap.size, 11, none⟩)) (by rfl) (fun _ _ => by go_simp) ?_
    simp only [Act.put, List.setIfInBounds_toArray, List.set_cons_zero, List.set_cons_succ]
    refine mix_load_int (by rfl) _ rfl ⟨w.heap.size, 11, none⟩ rfl (.int .i64 (v 11)) (fun _ hc => fact_cell 11 (by decide) hc.1) ?_
    simp only [Act.put, List.setIfInBounds_toArray, List.set_cons_zero, List.set_cons_succ]
    refine mix_call 66 #[.int .i64 (v 11)] (.bool true) (by rfl) (fun _ => by go_simp) H0.out ?_
    simp only [Act.put, List.setIfInBounds_toArray, List.set_cons_zero, List.set_cons_succ]
    refine mix_val (.bool true) (by rfl) (fun _ _ => by rfl) ?_
    simp only [Act.put, List.setIfInBounds_toArray, List.set_cons_zero, List.set_cons_succ]
    refine mix_val (.pointer (some ⟨w.heap.size, 17, none⟩)) (by rfl) (fun _ _ => by go_simp) ?_
    simp only [Act.put, List.setIfInBounds_toArray, List.set_cons_zero, List.set_cons_succ]
    refine mix_load_str (by rfl) _ rfl ⟨w.heap.size, 17, none⟩ rfl (.string t) (fun _ hc => fact_text hc.1) ?_
    simp only [Act.put, List.setIfInBounds_toArray, List.set_cons_zero, List.set_cons_succ]
    refine mix_val (.int .i64 (t.size : Int)) (by rfl) (fun _ _ => by go_simp) ?_
    simp only [Act.put, List.setIfInBounds_toArray, List.set_cons_zero, List.set_cons_succ]
    refine mix_val (.bool false) (by rfl) (fun _ _ => by go_simp) ?_
    simp only [Act.put, List.setIfInBounds_toArray, List.set_cons_zero, List.set_cons_succ]
    refine mix_val (.bool false) (by rfl) (fun _ _ => by rfl) ?_
    simp only [Act.put, List.setIfInBounds_toArray, List.set_cons_zero, List.set_cons_succ]
    refine mix_store_fact (by rfl) _ _ rfl (w.heap.size + 2) (keepV v) (keepT v t) rfl rfl _ R1.out rfl hone ⟨(setRow_other _ _ _ _ (by omega)).trans F1.out, (setRow_other _ _ _ _ (by omega)).trans G1.out⟩ ?_
    simp only [Act.put]
    refine mix_val (.bool false) (by rfl) (fun _ _ => by rfl) ?_
    simp only [Act.put, List.setIfInBounds_toArray, List.set_cons_zero, List.set_cons_succ]
    refine mix_done ?_
    go_wp2_with fail
    refine bodyPost_ret (results_fact_tmp rfl _ _ (w.heap.size + 2) (keepV v) (keepT v t) _ rfl (setRow_heap _ _ _ _ _ _ R1.out) rfl) rfl ?_
    exact ⟨rfl, below_setRow' (Below.drew (Below.drew (B1.out))) _ _ (by omega)⟩
  refine wp_region_mix (fun w' => w'.heap[w.heap.size]? = some (.cells (factC v t) 40 (0, 0)) ∧ w'.heap[(w.heap.size + 1)]? = some (.cells (factC (keepV v) (keepT v t)) 40 (0, 0))) [true, true, true, true, true, true, true, true, true, true, false, true] (by kernel_rfl) (by kernel_rfl) ⟨F1.out, G1.out⟩ ?_
  refine mix_load_fact (by rfl) _ rfl (w.heap.size + 1) rfl (keepV v) (keepT v t) (fun _ hc => hc.2) ?_
  simp only [Act.put, List.setIfInBounds_toArray, List.set_cons_zero, List.set_cons_succ]
  refine mix_val (.pointer (some ⟨w.heap.size, 11, none⟩)) (by rfl) (fun _ _ => by go_simp) ?_
  simp only [Act.put, List.setIfInBounds_toArray, List.set_cons_zero, List.set_cons_succ]
  refine mix_load_int (by rfl) _ rfl ⟨w.heap.size, 11, none⟩ rfl (.int .i64 (v 11)) (fun _ hc => fact_cell 11 (by decide) hc.1) ?_
  simp only [Act.put, List.setIfInBounds_toArray, List.set_cons_zero, List.set_cons_succ]
  refine mix_call 66 #[.int .i64 (v 11)] (.bool true) (by rfl) (fun _ => by go_simp) H0.out ?_
  simp only [Act.put, List.setIfInBounds_toArray, List.set_cons_zero, List.set_cons_succ]
  refine mix_val (.bool true) (by rfl) (fun _ _ => by rfl) ?_
  simp only [Act.put, List.setIfInBounds_toArray, List.set_cons_zero, List.set_cons_succ]
  refine mix_val (.pointer (some ⟨w.heap.size, 17, none⟩)) (by rfl) (fun _ _ => by go_simp) ?_
  simp only [Act.put, List.setIfInBounds_toArray, List.set_cons_zero, List.set_cons_succ]
  refine mix_load_str (by rfl) _ rfl ⟨w.heap.size, 17, none⟩ rfl (.string t) (fun _ hc => fact_text hc.1) ?_
  simp only [Act.put, List.setIfInBounds_toArray, List.set_cons_zero, List.set_cons_succ]
  refine mix_val (.int .i64 (t.size : Int)) (by rfl) (fun _ _ => by go_simp) ?_
  simp only [Act.put, List.setIfInBounds_toArray, List.set_cons_zero, List.set_cons_succ]
  refine mix_val (.bool true) (by rfl) (fun _ _ => by go_simp) ?_
  simp only [Act.put, List.setIfInBounds_toArray, List.set_cons_zero, List.set_cons_succ]
  refine mix_val (.bool true) (by rfl) (fun _ _ => by rfl) ?_
  simp only [Act.put, List.setIfInBounds_toArray, List.set_cons_zero, List.set_cons_succ]
  refine mix_store_fact (by rfl) _ _ rfl (w.heap.size + 2) (keepV v) (keepT v t) rfl rfl _ R1.out rfl hone ⟨(setRow_other _ _ _ _ (by omega)).trans F1.out, (setRow_other _ _ _ _ (by omega)).trans G1.out⟩ ?_
  simp only [Act.put]
  refine mix_val (.bool true) (by rfl) (fun _ _ => by rfl) ?_
  simp only [Act.put, List.setIfInBounds_toArray, List.set_cons_zero, List.set_cons_succ]
  refine mix_done ?_
  go_wp2_with fail
  refine bodyPost_ret (results_fact_tmp rfl _ _ (w.heap.size + 2) (keepV v) (keepT v t) _ rfl (setRow_heap _ _ _ _ _ _ R1.out) rfl) rfl ?_
  exact ⟨rfl, below_setRow' (Below.drew (Below.drew (B1.out))) _ _ (by omega)⟩

set_option maxRecDepth 100000 in
set_option maxHeartbeats 8000000 in
theorem rest_10 (v : Nat → Int) (t : ByteArray) (w : World) (hk : v 0 = 10) :
    Calls Tryz.prog 67 #[.agg (factC v t), .agg (factC (baseK 10 (v 2)) ⟨#[]⟩)] w fun e W' => e = .returned (.tuple #[.agg (factC (keepV v) (keepT v t)), .bool (inB (v 8) 0 7 && inB (v 11) 0 1199 && inB (v 16) 1 2)]) ∧ Below w.heap.size w W' := by
  have H0 := Lib.hid (fun W => territory_calls (v 8) W)
  generalize inB (v 8) 0 7 = e0 at *
  have H1 := Lib.hid (fun W => period_calls (v 11) W)
  generalize inB (v 11) 0 1199 = e1 at *
  have H2 := Lib.hid (fun W => within_calls (v 16) 1 2 W)
  generalize inB (v 16) 1 2 = e2 at *
  go_enter Tryz.func67, Tryz.ntmps67
  go_upto_region 1 with (fail)
  obtain ⟨W0, hW0, f0, g0, r0, b0⟩ := three_rows w (factC v t) (factC (baseK 10 (v 2)) ⟨#[]⟩) (factC zeroV ⟨#[]⟩) 40 40 40
  rw [hW0]
  clear hW0
  have F0 := Lib.hid f0
  have G0 := Lib.hid g0
  have R0 := Lib.hid r0
  have B0 := Lib.hid b0
  clear f0 g0 r0 b0
  obtain ⟨c0, -⟩ := row18 F0.out
  rw [hk] at c0
  go_upto_region 15 with (first
      | (refine wpList_load_fact rfl _ rfl w.heap.size rfl v t F0.out ?_)
      | (refine wpList_load_fact rfl _ rfl (w.heap.size + 1) rfl (baseK 10 (v 2)) ⟨#[]⟩ G0.out ?_)
      | (refine wpList_load_fact rfl _ rfl (w.heap.size + 2) rfl zeroV ⟨#[]⟩ R0.out ?_))
  clear c0
  obtain ⟨-, -, -, -, -, -, -, -, d8, -, -, d11, -, -, -, -, d16, -⟩ := row18 F0.out
  obtain ⟨-, -, -, -, -, -, -, -, c8, -, -, c11, -, -, -, -, c16, -⟩ := row18 G0.out
  have z8 : W0.frozen? ⟨(w.heap.size + 1), 8, none⟩ = false := frozen_of_row _ _ _ _ _ G0.out
  have z11 : W0.frozen? ⟨(w.heap.size + 1), 11, none⟩ = false := frozen_of_row _ _ _ _ _ G0.out
  have z16 : W0.frozen? ⟨(w.heap.size + 1), 16, none⟩ = false := frozen_of_row _ _ _ _ _ G0.out
  go_region_held3 (fun w' => w'.cell? ⟨w.heap.size, 8, none⟩ = some (.int .i64 (v 8)) ∧ w'.cell? ⟨w.heap.size, 11, none⟩ = some (.int .i64 (v 11)) ∧ w'.cell? ⟨w.heap.size, 16, none⟩ = some (.int .i64 (v 16))) (go_keep) (fail)
  go_upto_region 16 with (first
      | (refine wpList_load_fact rfl _ rfl w.heap.size rfl v t F0.out ?_)
      | (refine wpList_load_fact rfl _ rfl (w.heap.size + 1) rfl (baseK 10 (v 2)) ⟨#[]⟩ G0.out ?_)
      | (refine wpList_load_fact rfl _ rfl (w.heap.size + 2) rfl zeroV ⟨#[]⟩ R0.out ?_))
  obtain ⟨W1, hW1, F1, G1, R1, B1⟩ : ∃ W1, (((W0.setCell ⟨(w.heap.size + 1), 8, none⟩ (.int .i64 (v 8))).setCell ⟨(w.heap.size + 1), 11, none⟩ (.int .i64 (v 11))).setCell ⟨(w.heap.size + 1), 16, none⟩ (.int .i64 (v 16))) = W1 ∧ Hid (W1.heap[w.heap.size]? = some (.cells (factC v t) 40 (0, 0))) ∧ Hid (W1.heap[(w.heap.size + 1)]? = some (.cells (factC (setF (setF (setF (baseK 10 (v 2)) 8 (v 8)) 11 (v 11)) 16 (v 16)) ⟨#[]⟩) 40 (0, 0))) ∧ Hid (W1.heap[(w.heap.size + 2)]? = some (.cells (factC zeroV ⟨#[]⟩) 40 (0, 0))) ∧ Hid (Below w.heap.size w W1) :=
    ⟨_, rfl, Lib.hid (other_cell 16 _ (by omega) (other_cell 11 _ (by omega) (other_cell 8 _ (by omega) F0.out))), Lib.hid (setF_cell 16 (v 16) (by omega) (setF_cell 11 (v 11) (by omega) (setF_cell 8 (v 8) (by omega) G0.out))), Lib.hid (other_cell 16 _ (by omega) (other_cell 11 _ (by omega) (other_cell 8 _ (by omega) R0.out))), Lib.hid (((B0.out.setCell (p := ⟨(w.heap.size + 1), 8, none⟩) (show w.heap.size ≤ (w.heap.size + 1) by omega) _).setCell (p := ⟨(w.heap.size + 1), 11, none⟩) (show w.heap.size ≤ (w.heap.size + 1) by omega) _).setCell (p := ⟨(w.heap.size + 1), 16, none⟩) (show w.heap.size ≤ (w.heap.size + 1) by omega) _)⟩
  rw [hW1]
  clear hW1 F0 G0 R0 B0
  clear c8 z8 d8 c11 z11 d11 c16 z16 d16
  have hkeep := keep_10 v t hk
  rw [hkeep] at G1
  clear hkeep hk
  have hone := factC_one (keepV v) (keepT v t)
  rcases e0 with _ | _
  · refine wp_region_mix (fun w' => w'.heap[w.heap.size]? = some (.cells (factC v t) 40 (0, 0)) ∧ w'.heap[(w.heap.size + 1)]? = some (.cells (factC (keepV v) (keepT v t)) 40 (0, 0))) [true, true, true, true, true, true, true, true, true, true, true, true, true, true, false, true] (by kernel_rfl) (by kernel_rfl) ⟨F1.out, G1.out⟩ ?_
    refine mix_load_fact (by rfl) _ rfl (w.heap.size + 1) rfl (keepV v) (keepT v t) (fun _ hc => hc.2) ?_
    simp only [Act.put, List.setIfInBounds_toArray, List.set_cons_zero, List.set_cons_succ]
    refine mix_val (.pointer (some ⟨w.heap.size, 8, none⟩)) (by rfl) (fun _ _ => by go_simp) ?_
    simp only [Act.put, List.setIfInBounds_toArray, List.set_cons_zero, List.set_cons_succ]
    refine mix_load_int (by rfl) _ rfl ⟨w.heap.size, 8, none⟩ rfl (.int .i64 (v 8)) (fun _ hc => fact_cell 8 (by decide) hc.1) ?_
    simp only [Act.put, List.setIfInBounds_toArray, List.set_cons_zero, List.set_cons_succ]
    refine mix_call 65 #[.int .i64 (v 8)] (.bool false) (by rfl) (fun _ => by go_simp) H0.out ?_
    simp only [Act.put, List.setIfInBounds_toArray, List.set_cons_zero, List.set_cons_succ]
    refine mix_val (.bool false) (by rfl) (fun _ _ => by rfl) ?_
    simp only [Act.put, List.setIfInBounds_toArray, List.set_cons_zero, List.set_cons_succ]
    refine mix_off (by rfl) ?_
    simp only [Act.put, List.setIfInBounds_toArray, List.set_cons_zero, List.set_cons_succ]
    refine mix_off (by rfl) ?_
    simp only [Act.put, List.setIfInBounds_toArray, List.set_cons_zero, List.set_cons_succ]
    refine mix_off (by rfl) ?_
    simp only [Act.put, List.setIfInBounds_toArray, List.set_cons_zero, List.set_cons_succ]
    refine mix_val (.bool false) (by rfl) (fun _ _ => by rfl) ?_
    simp only [Act.put, List.setIfInBounds_toArray, List.set_cons_zero, List.set_cons_succ]
    refine mix_val (.bool false) (by rfl) (fun _ _ => by rfl) ?_
    simp only [Act.put, List.setIfInBounds_toArray, List.set_cons_zero, List.set_cons_succ]
    refine mix_off (by rfl) ?_
    simp only [Act.put, List.setIfInBounds_toArray, List.set_cons_zero, List.set_cons_succ]
    refine mix_off (by rfl) ?_
    simp only [Act.put, List.setIfInBounds_toArray, List.set_cons_zero, List.set_cons_succ]
    refine mix_off (by rfl) ?_
    simp only [Act.put, List.setIfInBounds_toArray, List.set_cons_zero, List.set_cons_succ]
    refine mix_val (.bool false) (by rfl) (fun _ _ => by rfl) ?_
    simp only [Act.put, List.setIfInBounds_toArray, List.set_cons_zero, List.set_cons_succ]
    refine mix_store_fact (by rfl) _ _ rfl (w.heap.size + 2) (keepV v) (keepT v t) rfl rfl _ R1.out rfl hone ⟨(setRow_other _ _ _ _ (by omega)).trans F1.out, (setRow_other _ _ _ _ (by omega)).trans G1.out⟩ ?_
    simp only [Act.put]
    refine mix_val (.bool false) (by rfl) (fun _ _ => by rfl) ?_
    simp only [Act.put, List.setIfInBounds_toArray, List.set_cons_zero, List.set_cons_succ]
    refine mix_done ?_
    go_wp2_with fail
    refine bodyPost_ret (results_fact_tmp rfl _ _ (w.heap.size + 2) (keepV v) (keepT v t) _ rfl (setRow_heap _ _ _ _ _ _ R1.out) rfl) rfl ?_
    exact ⟨rfl, below_setRow' (Below.drew (Below.drew (B1.out))) _ _ (by omega)⟩
  rcases e1 with _ | _
  · refine wp_region_mix (fun w' => w'.heap[w.heap.size]? = some (.cells (factC v t) 40 (0, 0)) ∧ w'.heap[(w.heap.size + 1)]? = some (.cells (factC (keepV v) (keepT v t)) 40 (0, 0))) [true, true, true, true, true, true, true, true, true, true, true, true, true, true, false, true] (by kernel_rfl) (by kernel_rfl) ⟨F1.out, G1.out⟩ ?_
    refine mix_load_fact (by rfl) _ rfl (w.heap.size + 1) rfl (keepV v) (keepT v t) (fun _ hc => hc.2) ?_
    simp only [Act.put, List.setIfInBounds_toArray, List.set_cons_zero, List.set_cons_succ]
    refine mix_val (.pointer (some ⟨w.heap.size, 8, none⟩)) (by rfl) (fun _ _ => by go_simp) ?_
    simp only [Act.put, List.setIfInBounds_toArray, List.set_cons_zero, List.set_cons_succ]
    refine mix_load_int (by rfl) _ rfl ⟨w.heap.size, 8, none⟩ rfl (.int .i64 (v 8)) (fun _ hc => fact_cell 8 (by decide) hc.1) ?_
    simp only [Act.put, List.setIfInBounds_toArray, List.set_cons_zero, List.set_cons_succ]
    refine mix_call 65 #[.int .i64 (v 8)] (.bool true) (by rfl) (fun _ => by go_simp) H0.out ?_
    simp only [Act.put, List.setIfInBounds_toArray, List.set_cons_zero, List.set_cons_succ]
    refine mix_val (.bool true) (by rfl) (fun _ _ => by rfl) ?_
    simp only [Act.put, List.setIfInBounds_toArray, List.set_cons_zero, List.set_cons_succ]
    refine mix_val (.pointer (some ⟨w.heap.size, 11, none⟩)) (by rfl) (fun _ _ => by go_simp) ?_
    simp only [Act.put, List.setIfInBounds_toArray, List.set_cons_zero, List.set_cons_succ]
    refine mix_load_int (by rfl) _ rfl ⟨w.heap.size, 11, none⟩ rfl (.int .i64 (v 11)) (fun _ hc => fact_cell 11 (by decide) hc.1) ?_
    simp only [Act.put, List.setIfInBounds_toArray, List.set_cons_zero, List.set_cons_succ]
    refine mix_call 66 #[.int .i64 (v 11)] (.bool false) (by rfl) (fun _ => by go_simp) H1.out ?_
    simp only [Act.put, List.setIfInBounds_toArray, List.set_cons_zero, List.set_cons_succ]
    refine mix_val (.bool false) (by rfl) (fun _ _ => by rfl) ?_
    simp only [Act.put, List.setIfInBounds_toArray, List.set_cons_zero, List.set_cons_succ]
    refine mix_val (.bool false) (by rfl) (fun _ _ => by rfl) ?_
    simp only [Act.put, List.setIfInBounds_toArray, List.set_cons_zero, List.set_cons_succ]
    refine mix_off (by rfl) ?_
    simp only [Act.put, List.setIfInBounds_toArray, List.set_cons_zero, List.set_cons_succ]
    refine mix_off (by rfl) ?_
    simp only [Act.put, List.setIfInBounds_toArray, List.set_cons_zero, List.set_cons_succ]
    refine mix_off (by rfl) ?_
    simp only [Act.put, List.setIfInBounds_toArray, List.set_cons_zero, List.set_cons_succ]
    refine mix_val (.bool false) (by rfl) (fun _ _ => by rfl) ?_
    simp only [Act.put, List.setIfInBounds_toArray, List.set_cons_zero, List.set_cons_succ]
    refine mix_store_fact (by rfl) _ _ rfl (w.heap.size + 2) (keepV v) (keepT v t) rfl rfl _ R1.out rfl hone ⟨(setRow_other _ _ _ _ (by omega)).trans F1.out, (setRow_other _ _ _ _ (by omega)).trans G1.out⟩ ?_
    simp only [Act.put]
    refine mix_val (.bool false) (by rfl) (fun _ _ => by rfl) ?_
    simp only [Act.put, List.setIfInBounds_toArray, List.set_cons_zero, List.set_cons_succ]
    refine mix_done ?_
    go_wp2_with fail
    refine bodyPost_ret (results_fact_tmp rfl _ _ (w.heap.size + 2) (keepV v) (keepT v t) _ rfl (setRow_heap _ _ _ _ _ _ R1.out) rfl) rfl ?_
    exact ⟨rfl, below_setRow' (Below.drew (Below.drew (B1.out))) _ _ (by omega)⟩
  rcases e2 with _ | _
  · refine wp_region_mix (fun w' => w'.heap[w.heap.size]? = some (.cells (factC v t) 40 (0, 0)) ∧ w'.heap[(w.heap.size + 1)]? = some (.cells (factC (keepV v) (keepT v t)) 40 (0, 0))) [true, true, true, true, true, true, true, true, true, true, true, true, true, true, false, true] (by kernel_rfl) (by kernel_rfl) ⟨F1.out, G1.out⟩ ?_
    refine mix_load_fact (by rfl) _ rfl (w.heap.size + 1) rfl (keepV v) (keepT v t) (fun _ hc => hc.2) ?_
    simp only [Act.put, List.setIfInBounds_toArray, List.set_cons_zero, List.set_cons_succ]
    refine mix_val (.pointer (some ⟨w.heap.size, 8, none⟩)) (by rfl) (fun _ _ => by go_simp) ?_
    simp only [Act.put, List.setIfInBounds_toArray, List.set_cons_zero, List.set_cons_succ]
    refine mix_load_int (by rfl) _ rfl ⟨w.heap.size, 8, none⟩ rfl (.int .i64 (v 8)) (fun _ hc => fact_cell 8 (by decide) hc.1) ?_
    simp only [Act.put, List.setIfInBounds_toArray, List.set_cons_zero, List.set_cons_succ]
    refine mix_call 65 #[.int .i64 (v 8)] (.bool true) (by rfl) (fun _ => by go_simp) H0.out ?_
    simp only [Act.put, List.setIfInBounds_toArray, List.set_cons_zero, List.set_cons_succ]
    refine mix_val (.bool true) (by rfl) (fun _ _ => by rfl) ?_
    simp only [Act.put, List.setIfInBounds_toArray, List.set_cons_zero, List.set_cons_succ]
    refine mix_val (.pointer (some ⟨w.heap.size, 11, none⟩)) (by rfl) (fun _ _ => by go_simp) ?_
    simp only [Act.put, List.setIfInBounds_toArray, List.set_cons_zero, List.set_cons_succ]
    refine mix_load_int (by rfl) _ rfl ⟨w.heap.size, 11, none⟩ rfl (.int .i64 (v 11)) (fun _ hc => fact_cell 11 (by decide) hc.1) ?_
    simp only [Act.put, List.setIfInBounds_toArray, List.set_cons_zero, List.set_cons_succ]
    refine mix_call 66 #[.int .i64 (v 11)] (.bool true) (by rfl) (fun _ => by go_simp) H1.out ?_
    simp only [Act.put, List.setIfInBounds_toArray, List.set_cons_zero, List.set_cons_succ]
    refine mix_val (.bool true) (by rfl) (fun _ _ => by rfl) ?_
    simp only [Act.put, List.setIfInBounds_toArray, List.set_cons_zero, List.set_cons_succ]
    refine mix_val (.bool true) (by rfl) (fun _ _ => by rfl) ?_
    simp only [Act.put, List.setIfInBounds_toArray, List.set_cons_zero, List.set_cons_succ]
    refine mix_val (.pointer (some ⟨w.heap.size, 16, none⟩)) (by rfl) (fun _ _ => by go_simp) ?_
    simp only [Act.put, List.setIfInBounds_toArray, List.set_cons_zero, List.set_cons_succ]
    refine mix_load_int (by rfl) _ rfl ⟨w.heap.size, 16, none⟩ rfl (.int .i64 (v 16)) (fun _ hc => fact_cell 16 (by decide) hc.1) ?_
    simp only [Act.put, List.setIfInBounds_toArray, List.set_cons_zero, List.set_cons_succ]
    refine mix_call 49 #[.int .i64 (v 16), .int .i64 1, .int .i64 2] (.bool false) (by rfl) (fun _ => by go_simp) H2.out ?_
    simp only [Act.put, List.setIfInBounds_toArray, List.set_cons_zero, List.set_cons_succ]
    refine mix_val (.bool false) (by rfl) (fun _ _ => by rfl) ?_
    simp only [Act.put, List.setIfInBounds_toArray, List.set_cons_zero, List.set_cons_succ]
    refine mix_store_fact (by rfl) _ _ rfl (w.heap.size + 2) (keepV v) (keepT v t) rfl rfl _ R1.out rfl hone ⟨(setRow_other _ _ _ _ (by omega)).trans F1.out, (setRow_other _ _ _ _ (by omega)).trans G1.out⟩ ?_
    simp only [Act.put]
    refine mix_val (.bool false) (by rfl) (fun _ _ => by rfl) ?_
    simp only [Act.put, List.setIfInBounds_toArray, List.set_cons_zero, List.set_cons_succ]
    refine mix_done ?_
    go_wp2_with fail
    refine bodyPost_ret (results_fact_tmp rfl _ _ (w.heap.size + 2) (keepV v) (keepT v t) _ rfl (setRow_heap _ _ _ _ _ _ R1.out) rfl) rfl ?_
    exact ⟨rfl, below_setRow' (Below.drew (Below.drew (B1.out))) _ _ (by omega)⟩
  refine wp_region_mix (fun w' => w'.heap[w.heap.size]? = some (.cells (factC v t) 40 (0, 0)) ∧ w'.heap[(w.heap.size + 1)]? = some (.cells (factC (keepV v) (keepT v t)) 40 (0, 0))) [true, true, true, true, true, true, true, true, true, true, true, true, true, true, false, true] (by kernel_rfl) (by kernel_rfl) ⟨F1.out, G1.out⟩ ?_
  refine mix_load_fact (by rfl) _ rfl (w.heap.size + 1) rfl (keepV v) (keepT v t) (fun _ hc => hc.2) ?_
  simp only [Act.put, List.setIfInBounds_toArray, List.set_cons_zero, List.set_cons_succ]
  refine mix_val (.pointer (some ⟨w.heap.size, 8, none⟩)) (by rfl) (fun _ _ => by go_simp) ?_
  simp only [Act.put, List.setIfInBounds_toArray, List.set_cons_zero, List.set_cons_succ]
  refine mix_load_int (by rfl) _ rfl ⟨w.heap.size, 8, none⟩ rfl (.int .i64 (v 8)) (fun _ hc => fact_cell 8 (by decide) hc.1) ?_
  simp only [Act.put, List.setIfInBounds_toArray, List.set_cons_zero, List.set_cons_succ]
  refine mix_call 65 #[.int .i64 (v 8)] (.bool true) (by rfl) (fun _ => by go_simp) H0.out ?_
  simp only [Act.put, List.setIfInBounds_toArray, List.set_cons_zero, List.set_cons_succ]
  refine mix_val (.bool true) (by rfl) (fun _ _ => by rfl) ?_
  simp only [Act.put, List.setIfInBounds_toArray, List.set_cons_zero, List.set_cons_succ]
  refine mix_val (.pointer (some ⟨w.heap.size, 11, none⟩)) (by rfl) (fun _ _ => by go_simp) ?_
  simp only [Act.put, List.setIfInBounds_toArray, List.set_cons_zero, List.set_cons_succ]
  refine mix_load_int (by rfl) _ rfl ⟨w.heap.size, 11, none⟩ rfl (.int .i64 (v 11)) (fun _ hc => fact_cell 11 (by decide) hc.1) ?_
  simp only [Act.put, List.setIfInBounds_toArray, List.set_cons_zero, List.set_cons_succ]
  refine mix_call 66 #[.int .i64 (v 11)] (.bool true) (by rfl) (fun _ => by go_simp) H1.out ?_
  simp only [Act.put, List.setIfInBounds_toArray, List.set_cons_zero, List.set_cons_succ]
  refine mix_val (.bool true) (by rfl) (fun _ _ => by rfl) ?_
  simp only [Act.put, List.setIfInBounds_toArray, List.set_cons_zero, List.set_cons_succ]
  refine mix_val (.bool true) (by rfl) (fun _ _ => by rfl) ?_
  simp only [Act.put, List.setIfInBounds_toArray, List.set_cons_zero, List.set_cons_succ]
  refine mix_val (.pointer (some ⟨w.heap.size, 16, none⟩)) (by rfl) (fun _ _ => by go_simp) ?_
  simp only [Act.put, List.setIfInBounds_toArray, List.set_cons_zero, List.set_cons_succ]
  refine mix_load_int (by rfl) _ rfl ⟨w.heap.size, 16, none⟩ rfl (.int .i64 (v 16)) (fun _ hc => fact_cell 16 (by decide) hc.1) ?_
  simp only [Act.put, List.setIfInBounds_toArray, List.set_cons_zero, List.set_cons_succ]
  refine mix_call 49 #[.int .i64 (v 16), .int .i64 1, .int .i64 2] (.bool true) (by rfl) (fun _ => by go_simp) H2.out ?_
  simp only [Act.put, List.setIfInBounds_toArray, List.set_cons_zero, List.set_cons_succ]
  refine mix_val (.bool true) (by rfl) (fun _ _ => by rfl) ?_
  simp only [Act.put, List.setIfInBounds_toArray, List.set_cons_zero, List.set_cons_succ]
  refine mix_store_fact (by rfl) _ _ rfl (w.heap.size + 2) (keepV v) (keepT v t) rfl rfl _ R1.out rfl hone ⟨(setRow_other _ _ _ _ (by omega)).trans F1.out, (setRow_other _ _ _ _ (by omega)).trans G1.out⟩ ?_
  simp only [Act.put]
  refine mix_val (.bool true) (by rfl) (fun _ _ => by rfl) ?_
  simp only [Act.put, List.setIfInBounds_toArray, List.set_cons_zero, List.set_cons_succ]
  refine mix_done ?_
  go_wp2_with fail
  refine bodyPost_ret (results_fact_tmp rfl _ _ (w.heap.size + 2) (keepV v) (keepT v t) _ rfl (setRow_heap _ _ _ _ _ _ R1.out) rfl) rfl ?_
  exact ⟨rfl, below_setRow' (Below.drew (Below.drew (B1.out))) _ _ (by omega)⟩

end Go.Proofs.YtnndnjnpkjpkpaaGreatDoor
