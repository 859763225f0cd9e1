/- The reference implementation's fields and rest, for kinds 2, 4, 5: the fact with the fields of its kind alone, and whether they are as they must be. No further condition. -/
import Derived.Test.YtnndnjnpkjpkpaaGreatDoorRfA
import Derived.Test.YtnndnjnpkjpkpaaGreatDoorMix
import Derived.Deep.RegionHeld3
namespace Go.Proofs.YtnndnjnpkjpkpaaGreatDoor
open Go.RowKit

set_option maxRecDepth 100000 in
set_option maxHeartbeats 8000000 in
theorem fields_2 (v : Nat → Int) (t : ByteArray) (w : World) (hk : v 0 = 2) :
    Calls Tryz.prog 48 #[.agg (factC v t)] w fun e W' => e = .returned (.tuple #[.agg (factC (keepV v) (keepT v t)), .bool (inB (v 6) 1 1000000 && inB (v 1) 1 1000000 && inB (v 16) 1 3)]) ∧ Below w.heap.size w W' := by
  have H0 := Lib.hid (fun W => id_calls (v 6) W)
  generalize inB (v 6) 1 1000000 = e0 at *
  have H1 := Lib.hid (fun W => id_calls (v 1) W)
  generalize inB (v 1) 1 1000000 = e1 at *
  have H2 := Lib.hid (fun W => within_calls (v 16) 1 3 W)
  generalize inB (v 16) 1 3 = e2 at *
  go_enter Tryz.func48, Tryz.ntmps48
  go_upto_region 1 with (fail)
  obtain ⟨W0, hW0, f0, r0, b0⟩ := two_rows w (factC v t) (factC zeroV ⟨#[]⟩) 40 40
  rw [hW0]
  clear hW0
  have F0 := Lib.hid f0
  have R0 := Lib.hid r0
  have B0 := Lib.hid b0
  clear f0 r0 b0
  obtain ⟨c0, -, c2, -⟩ := row18 F0.out
  rw [hk] at c0
  have honeG := factC_one (baseK 2 (v 2)) ⟨#[]⟩
  go_upto_region 2 with (first
      | (refine wpList_store_row rfl 40 _ _ rfl W0.heap.size (factC (baseK 2 (v 2)) ⟨#[]⟩) rfl rfl 40 _ (heap_new W0 _) (hiC _ _) rfl honeG ?_)
      | (refine wpList_load_fact rfl _ rfl w.heap.size rfl v t F0.out ?_)
      | (refine wpList_load_fact rfl _ rfl (w.heap.size + 1) rfl zeroV ⟨#[]⟩ R0.out ?_))
  have hltFG : w.heap.size < W0.heap.size := (Array.getElem?_eq_some_iff.1 F0.out).1
  have hltRG : (w.heap.size + 1) < W0.heap.size := (Array.getElem?_eq_some_iff.1 R0.out).1
  have hBG : w.heap.size ≤ W0.heap.size := B0.out.size
  obtain ⟨W1, hW1, F1, R1, G1, B1, hs1⟩ : ∃ W1, (W0.alloc (.cells (factC zeroV ⟨#[]⟩) 40)).setRow W0.heap.size (factC (baseK 2 (v 2)) ⟨#[]⟩) = W1 ∧ Hid (W1.heap[w.heap.size]? = some (.cells (factC v t) 40 (0, 0))) ∧ Hid (W1.heap[(w.heap.size + 1)]? = some (.cells (factC zeroV ⟨#[]⟩) 40 (0, 0))) ∧ Hid (W1.heap[W0.heap.size]? = some (.cells (factC (baseK 2 (v 2)) ⟨#[]⟩) 40 (0, 0))) ∧ Hid (Below w.heap.size w W1) ∧ Hid (W0.heap.size < W1.heap.size) :=
    ⟨_, rfl, Lib.hid ((setRow_other _ _ _ _ (Nat.ne_of_lt (Array.getElem?_eq_some_iff.1 F0.out).1)).trans (row_aft _ _ _ _ F0.out)), Lib.hid ((setRow_other _ _ _ _ (Nat.ne_of_lt (Array.getElem?_eq_some_iff.1 R0.out).1)).trans (row_aft _ _ _ _ R0.out)), Lib.hid (setRow_heap _ _ _ _ _ _ (heap_new W0 _)), Lib.hid (below_setRow' (B0.out.alloc B0.out.size _) _ _ B0.out.size), Lib.hid (by simp)⟩
  rw [hW1]
  clear hW1 F0 R0 B0
  have hleG := hBG
  clear hBG
  generalize W0.heap.size = AG at *
  clear c0 c2
  obtain ⟨c0, -⟩ := row18 F1.out
  rw [hk] at c0
  go_upto_region 8 with (first
      | (refine wpList_load_fact rfl _ rfl w.heap.size rfl v t F1.out ?_)
      | (refine wpList_load_fact rfl _ rfl (w.heap.size + 1) rfl zeroV ⟨#[]⟩ R1.out ?_)
      | (refine wpList_load_fact rfl _ rfl AG rfl (baseK 2 (v 2)) ⟨#[]⟩ G1.out ?_))
  clear c0
  obtain ⟨-, d1, -, -, -, -, d6, -, -, -, -, -, -, -, -, -, d16, -⟩ := row18 F1.out
  obtain ⟨-, c1, -, -, -, -, c6, -, -, -, -, -, -, -, -, -, c16, -⟩ := row18 G1.out
  have z6 : W1.frozen? ⟨AG, 6, none⟩ = false := frozen_of_row _ _ _ _ _ G1.out
  have z1 : W1.frozen? ⟨AG, 1, none⟩ = false := frozen_of_row _ _ _ _ _ G1.out
  have z16 : W1.frozen? ⟨AG, 16, none⟩ = false := frozen_of_row _ _ _ _ _ G1.out
  have ne1 : ¬ AG = w.heap.size := by omega
  have ne2 : ¬ w.heap.size = AG := by omega
  go_region_held3 (fun w' => w'.cell? ⟨w.heap.size, 6, none⟩ = some (.int .i64 (v 6)) ∧ w'.cell? ⟨w.heap.size, 1, none⟩ = some (.int .i64 (v 1)) ∧ w'.cell? ⟨w.heap.size, 16, none⟩ = some (.int .i64 (v 16))) (go_keep) (fail)
  go_upto_region 9 with (first
      | (refine wpList_load_fact rfl _ rfl w.heap.size rfl v t F1.out ?_)
      | (refine wpList_load_fact rfl _ rfl (w.heap.size + 1) rfl zeroV ⟨#[]⟩ R1.out ?_)
      | (refine wpList_load_fact rfl _ rfl AG rfl (baseK 2 (v 2)) ⟨#[]⟩ G1.out ?_))
  obtain ⟨W2, hW2, F2, G2, R2, B2⟩ : ∃ W2, (((W1.setCell ⟨AG, 6, none⟩ (.int .i64 (v 6))).setCell ⟨AG, 1, none⟩ (.int .i64 (v 1))).setCell ⟨AG, 16, none⟩ (.int .i64 (v 16))) = W2 ∧ Hid (W2.heap[w.heap.size]? = some (.cells (factC v t) 40 (0, 0))) ∧ Hid (W2.heap[AG]? = some (.cells (factC (setF (setF (setF (baseK 2 (v 2)) 6 (v 6)) 1 (v 1)) 16 (v 16)) ⟨#[]⟩) 40 (0, 0))) ∧ Hid (W2.heap[(w.heap.size + 1)]? = some (.cells (factC zeroV ⟨#[]⟩) 40 (0, 0))) ∧ Hid (Below w.heap.size w W2) :=
    ⟨_, rfl, Lib.hid (other_cell 16 _ (by omega) (other_cell 1 _ (by omega) (other_cell 6 _ (by omega) F1.out))), Lib.hid (setF_cell 16 (v 16) (by omega) (setF_cell 1 (v 1) (by omega) (setF_cell 6 (v 6) (by omega) G1.out))), Lib.hid (other_cell 16 _ (by omega) (other_cell 1 _ (by omega) (other_cell 6 _ (by omega) R1.out))), Lib.hid (((B1.out.setCell (p := ⟨AG, 6, none⟩) (show w.heap.size ≤ AG by omega) _).setCell (p := ⟨AG, 1, none⟩) (show w.heap.size ≤ AG by omega) _).setCell (p := ⟨AG, 16, none⟩) (show w.heap.size ≤ AG by omega) _)⟩
  rw [hW2]
  clear hW2 F1 R1 G1 B1
  clear c6 z6 d6 c1 z1 d1 c16 z16 d16
  have hkeep := keep_2 v t hk
  rw [hkeep] at G2
  clear hkeep hk
  have hone := factC_one (keepV v) (keepT v t)
  rcases e0 with _ | _
  · refine wp_region_mix (fun w' => w'.heap[w.heap.size]? = some (.cells (factC v t) 40 (0, 0)) ∧ w'.heap[AG]? = some (.cells (factC (keepV v) (keepT v t)) 40 (0, 0))) [true, true, true, true, true, true, true, true, true, true, true, true, true, true, false, true] (by kernel_rfl) (by kernel_rfl) ⟨F2.out, G2.out⟩ ?_
    refine mix_load_fact (by rfl) _ rfl AG rfl (keepV v) (keepT v t) (fun _ hc => hc.2) ?_
    simp only [Act.put, List.setIfInBounds_toArray, List.set_cons_zero, List.set_cons_succ]
    refine mix_val (.pointer (some ⟨w.heap.size, 6, none⟩)) (by rfl) (fun _ _ => by go_simp) ?_
    simp only [Act.put, List.setIfInBounds_toArray, List.set_cons_zero, List.set_cons_succ]
    refine mix_load_int (by rfl) _ rfl ⟨w.heap.size, 6, none⟩ rfl (.int .i64 (v 6)) (fun _ hc => fact_cell 6 (by decide) hc.1) ?_
    simp only [Act.put, List.setIfInBounds_toArray, List.set_cons_zero, List.set_cons_succ]
    refine mix_call 64 #[.int .i64 (v 6)] (.bool false) (by rfl) (fun _ => by go_simp) H0.out ?_
    simp only [Act.put, List.setIfInBounds_toArray, List.set_cons_zero, List.set_cons_succ]
    refine mix_val (.bool false) (by rfl) (fun _ _ => by rfl) ?_
    simp only [Act.put, List.setIfInBounds_toArray, List.set_cons_zero, List.set_cons_succ]
    refine mix_off (by rfl) ?_
    simp only [Act.put, List.setIfInBounds_toArray, List.set_cons_zero, List.set_cons_succ]
    refine mix_off (by rfl) ?_
    simp only [Act.put, List.setIfInBounds_toArray, List.set_cons_zero, List.set_cons_succ]
    refine mix_off (by rfl) ?_
    simp only [Act.put, List.setIfInBounds_toArray, List.set_cons_zero, List.set_cons_succ]
    refine mix_val (.bool false) (by rfl) (fun _ _ => by rfl) ?_
    simp only [Act.put, List.setIfInBounds_toArray, List.set_cons_zero, List.set_cons_succ]
    refine mix_val (.bool false) (by rfl) (fun _ _ => by rfl) ?_
    simp only [Act.put, List.setIfInBounds_toArray, List.set_cons_zero, List.set_cons_succ]
    refine mix_off (by rfl) ?_
    simp only [Act.put, List.setIfInBounds_toArray, List.set_cons_zero, List.set_cons_succ]
    refine mix_off (by rfl) ?_
    simp only [Act.put, List.setIfInBounds_toArray, List.set_cons_zero, List.set_cons_succ]
    refine mix_off (by rfl) ?_
    simp only [Act.put, List.setIfInBounds_toArray, List.set_cons_zero, List.set_cons_succ]
    refine mix_val (.bool false) (by rfl) (fun _ _ => by rfl) ?_
    simp only [Act.put, List.setIfInBounds_toArray, List.set_cons_zero, List.set_cons_succ]
    refine mix_store_fact (by rfl) _ _ rfl (w.heap.size + 1) (keepV v) (keepT v t) rfl rfl _ R2.out rfl hone ⟨(setRow_other _ _ _ _ (by omega)).trans F2.out, (setRow_other _ _ _ _ (by omega)).trans G2.out⟩ ?_
    simp only [Act.put]
    refine mix_val (.bool false) (by rfl) (fun _ _ => by rfl) ?_
    simp only [Act.put, List.setIfInBounds_toArray, List.set_cons_zero, List.set_cons_succ]
    refine mix_done ?_
    go_wp2_with fail
    refine bodyPost_ret (results_fact_tmp rfl _ _ (w.heap.size + 1) (keepV v) (keepT v t) _ rfl (setRow_heap _ _ _ _ _ _ R2.out) rfl) rfl ?_
    exact ⟨rfl, below_setRow' (Below.drew (Below.drew (B2.out))) _ _ (by omega)⟩
  rcases e1 with _ | _
  · refine wp_region_mix (fun w' => w'.heap[w.heap.size]? = some (.cells (factC v t) 40 (0, 0)) ∧ w'.heap[AG]? = some (.cells (factC (keepV v) (keepT v t)) 40 (0, 0))) [true, true, true, true, true, true, true, true, true, true, true, true, true, true, false, true] (by kernel_rfl) (by kernel_rfl) ⟨F2.out, G2.out⟩ ?_
    refine mix_load_fact (by rfl) _ rfl AG rfl (keepV v) (keepT v t) (fun _ hc => hc.2) ?_
    simp only [Act.put, List.setIfInBounds_toArray, List.set_cons_zero, List.set_cons_succ]
    refine mix_val (.pointer (some ⟨w.heap.size, 6, none⟩)) (by rfl) (fun _ _ => by go_simp) ?_
    simp only [Act.put, List.setIfInBounds_toArray, List.set_cons_zero, List.set_cons_succ]
    refine mix_load_int (by rfl) _ rfl ⟨w.heap.size, 6, none⟩ rfl (.int .i64 (v 6)) (fun _ hc => fact_cell 6 (by decide) hc.1) ?_
    simp only [Act.put, List.setIfInBounds_toArray, List.set_cons_zero, List.set_cons_succ]
    refine mix_call 64 #[.int .i64 (v 6)] (.bool true) (by rfl) (fun _ => by go_simp) H0.out ?_
    simp only [Act.put, List.setIfInBounds_toArray, List.set_cons_zero, List.set_cons_succ]
    refine mix_val (.bool true) (by rfl) (fun _ _ => by rfl) ?_
    simp only [Act.put, List.setIfInBounds_toArray, List.set_cons_zero, List.set_cons_succ]
    refine mix_val (.pointer (some ⟨w.heap.size, 1, none⟩)) (by rfl) (fun _ _ => by go_simp) ?_
    simp only [Act.put, List.setIfInBounds_toArray, List.set_cons_zero, List.set_cons_succ]
    refine mix_load_int (by rfl) _ rfl ⟨w.heap.size, 1, none⟩ rfl (.int .i64 (v 1)) (fun _ hc => fact_cell 1 (by decide) hc.1) ?_
    simp only [Act.put, List.setIfInBounds_toArray, List.set_cons_zero, List.set_cons_succ]
    refine mix_call 64 #[.int .i64 (v 1)] (.bool false) (by rfl) (fun _ => by go_simp) H1.out ?_
    simp only [Act.put, List.setIfInBounds_toArray, List.set_cons_zero, List.set_cons_succ]
    refine mix_val (.bool false) (by rfl) (fun _ _ => by rfl) ?_
    simp only [Act.put, List.setIfInBounds_toArray, List.set_cons_zero, List.set_cons_succ]
    refine mix_val (.bool false) (by rfl) (fun _ _ => by rfl) ?_
    simp only [Act.put, List.setIfInBounds_toArray, List.set_cons_zero, List.set_cons_succ]
    refine mix_off (by rfl) ?_
    simp only [Act.put, List.setIfInBounds_toArray, List.set_cons_zero, List.set_cons_succ]
    refine mix_off (by rfl) ?_
    simp only [Act.put, List.setIfInBounds_toArray, List.set_cons_zero, List.set_cons_succ]
    refine mix_off (by rfl) ?_
    simp only [Act.put, List.setIfInBounds_toArray, List.set_cons_zero, List.set_cons_succ]
    refine mix_val (.bool false) (by rfl) (fun _ _ => by rfl) ?_
    simp only [Act.put, List.setIfInBounds_toArray, List.set_cons_zero, List.set_cons_succ]
    refine mix_store_fact (by rfl) _ _ rfl (w.heap.size + 1) (keepV v) (keepT v t) rfl rfl _ R2.out rfl hone ⟨(setRow_other _ _ _ _ (by omega)).trans F2.out, (setRow_other _ _ _ _ (by omega)).trans G2.out⟩ ?_
    simp only [Act.put]
    refine mix_val (.bool false) (by rfl) (fun _ _ => by rfl) ?_
    simp only [Act.put, List.setIfInBounds_toArray, List.set_cons_zero, List.set_cons_succ]
    refine mix_done ?_
    go_wp2_with fail
    refine bodyPost_ret (results_fact_tmp rfl _ _ (w.heap.size + 1) (keepV v) (keepT v t) _ rfl (setRow_heap _ _ _ _ _ _ R2.out) rfl) rfl ?_
    exact ⟨rfl, below_setRow' (Below.drew (Below.drew (B2.out))) _ _ (by omega)⟩
  rcases e2 with _ | _
  · refine wp_region_mix (fun w' => w'.heap[w.heap.size]? = some (.cells (factC v t) 40 (0, 0)) ∧ w'.heap[AG]? = some (.cells (factC (keepV v) (keepT v t)) 40 (0, 0))) [true, true, true, true, true, true, true, true, true, true, true, true, true, true, false, true] (by kernel_rfl) (by kernel_rfl) ⟨F2.out, G2.out⟩ ?_
    refine mix_load_fact (by rfl) _ rfl AG rfl (keepV v) (keepT v t) (fun _ hc => hc.2) ?_
    simp only [Act.put, List.setIfInBounds_toArray, List.set_cons_zero, List.set_cons_succ]
    refine mix_val (.pointer (some ⟨w.heap.size, 6, none⟩)) (by rfl) (fun _ _ => by go_simp) ?_
    simp only [Act.put, List.setIfInBounds_toArray, List.set_cons_zero, List.set_cons_succ]
    refine mix_load_int (by rfl) _ rfl ⟨w.heap.size, 6, none⟩ rfl (.int .i64 (v 6)) (fun _ hc => fact_cell 6 (by decide) hc.1) ?_
    simp only [Act.put, List.setIfInBounds_toArray, List.set_cons_zero, List.set_cons_succ]
    refine mix_call 64 #[.int .i64 (v 6)] (.bool true) (by rfl) (fun _ => by go_simp) H0.out ?_
    simp only [Act.put, List.setIfInBounds_toArray, List.set_cons_zero, List.set_cons_succ]
    refine mix_val (.bool true) (by rfl) (fun _ _ => by rfl) ?_
    simp only [Act.put, List.setIfInBounds_toArray, List.set_cons_zero, List.set_cons_succ]
    refine mix_val (.pointer (some ⟨w.heap.size, 1, none⟩)) (by rfl) (fun _ _ => by go_simp) ?_
    simp only [Act.put, List.setIfInBounds_toArray, List.set_cons_zero, List.set_cons_succ]
    refine mix_load_int (by rfl) _ rfl ⟨w.heap.size, 1, none⟩ rfl (.int .i64 (v 1)) (fun _ hc => fact_cell 1 (by decide) hc.1) ?_
    simp only [Act.put, List.setIfInBounds_toArray, List.set_cons_zero, List.set_cons_succ]
    refine mix_call 64 #[.int .i64 (v 1)] (.bool true) (by rfl) (fun _ => by go_simp) H1.out ?_
    simp only [Act.put, List.setIfInBounds_toArray, List.set_cons_zero, List.set_cons_succ]
    refine mix_val (.bool true) (by rfl) (fun _ _ => by rfl) ?_
    simp only [Act.put, List.setIfInBounds_toArray, List.set_cons_zero, List.set_cons_succ]
    refine mix_val (.bool true) (by rfl) (fun _ _ => by rfl) ?_
    simp only [Act.put, List.setIfInBounds_toArray, List.set_cons_zero, List.set_cons_succ]
    refine mix_val (.pointer (some ⟨w.heap.size, 16, none⟩)) (by rfl) (fun _ _ => by go_simp) ?_
    simp only [Act.put, List.setIfInBounds_toArray, List.set_cons_zero, List.set_cons_succ]
    refine mix_load_int (by rfl) _ rfl ⟨w.heap.size, 16, none⟩ rfl (.int .i64 (v 16)) (fun _ hc => fact_cell 16 (by decide) hc.1) ?_
    simp only [Act.put, List.setIfInBounds_toArray, List.set_cons_zero, List.set_cons_succ]
    refine mix_call 49 #[.int .i64 (v 16), .int .i64 1, .int .i64 3] (.bool false) (by rfl) (fun _ => by go_simp) H2.out ?_
    simp only [Act.put, List.setIfInBounds_toArray, List.set_cons_zero, List.set_cons_succ]
    refine mix_val (.bool false) (by rfl) (fun _ _ => by rfl) ?_
    simp only [Act.put, List.setIfInBounds_toArray, List.set_cons_zero, List.set_cons_succ]
    refine mix_store_fact (by rfl) _ _ rfl (w.heap.size + 1) (keepV v) (keepT v t) rfl rfl _ R2.out rfl hone ⟨(setRow_other _ _ _ _ (by omega)).trans F2.out, (setRow_other _ _ _ _ (by omega)).trans G2.out⟩ ?_
    simp only [Act.put]
    refine mix_val (.bool false) (by rfl) (fun _ _ => by rfl) ?_
    simp only [Act.put, List.setIfInBounds_toArray, List.set_cons_zero, List.set_cons_succ]
    refine mix_done ?_
    go_wp2_with fail
    refine bodyPost_ret (results_fact_tmp rfl _ _ (w.heap.size + 1) (keepV v) (keepT v t) _ rfl (setRow_heap _ _ _ _ _ _ R2.out) rfl) rfl ?_
    exact ⟨rfl, below_setRow' (Below.drew (Below.drew (B2.out))) _ _ (by omega)⟩
  refine wp_region_mix (fun w' => w'.heap[w.heap.size]? = some (.cells (factC v t) 40 (0, 0)) ∧ w'.heap[AG]? = some (.cells (factC (keepV v) (keepT v t)) 40 (0, 0))) [true, true, true, true, true, true, true, true, true, true, true, true, true, true, false, true] (by kernel_rfl) (by kernel_rfl) ⟨F2.out, G2.out⟩ ?_
  refine mix_load_fact (by rfl) _ rfl AG rfl (keepV v) (keepT v t) (fun _ hc => hc.2) ?_
  simp only [Act.put, List.setIfInBounds_toArray, List.set_cons_zero, List.set_cons_succ]
  refine mix_val (.pointer (some ⟨w.heap.size, 6, none⟩)) (by rfl) (fun _ _ => by go_simp) ?_
  simp only [Act.put, List.setIfInBounds_toArray, List.set_cons_zero, List.set_cons_succ]
  refine mix_load_int (by rfl) _ rfl ⟨w.heap.size, 6, none⟩ rfl (.int .i64 (v 6)) (fun _ hc => fact_cell 6 (by decide) hc.1) ?_
  simp only [Act.put, List.setIfInBounds_toArray, List.set_cons_zero, List.set_cons_succ]
  refine mix_call 64 #[.int .i64 (v 6)] (.bool true) (by rfl) (fun _ => by go_simp) H0.out ?_
  simp only [Act.put, List.setIfInBounds_toArray, List.set_cons_zero, List.set_cons_succ]
  refine mix_val (.bool true) (by rfl) (fun _ _ => by rfl) ?_
  simp only [Act.put, List.setIfInBounds_toArray, List.set_cons_zero, List.set_cons_succ]
  refine mix_val (.pointer (some ⟨w.heap.size, 1, none⟩)) (by rfl) (fun _ _ => by go_simp) ?_
  simp only [Act.put, List.setIfInBounds_toArray, List.set_cons_zero, List.set_cons_succ]
  refine mix_load_int (by rfl) _ rfl ⟨w.heap.size, 1, none⟩ rfl (.int .i64 (v 1)) (fun _ hc => fact_cell 1 (by decide) hc.1) ?_
  simp only [Act.put, List.setIfInBounds_toArray, List.set_cons_zero, List.set_cons_succ]
  refine mix_call 64 #[.int .i64 (v 1)] (.bool true) (by rfl) (fun _ => by go_simp) H1.out ?_
  simp only [Act.put, List.setIfInBounds_toArray, List.set_cons_zero, List.set_cons_succ]
  refine mix_val (.bool true) (by rfl) (fun _ _ => by rfl) ?_
  simp only [Act.put, List.setIfInBounds_toArray, List.set_cons_zero, List.set_cons_succ]
  refine mix_val (.bool true) (by rfl) (fun _ _ => by rfl) ?_
  simp only [Act.put, List.setIfInBounds_toArray, List.set_cons_zero, List.set_cons_succ]
  refine mix_val (.pointer (some ⟨w.heap.size, 16, none⟩)) (by rfl) (fun _ _ => by go_simp) ?_
  simp only [Act.put, List.setIfInBounds_toArray, List.set_cons_zero, List.set_cons_succ]
  refine mix_load_int (by rfl) _ rfl ⟨w.heap.size, 16, none⟩ rfl (.int .i64 (v 16)) (fun _ hc => fact_cell 16 (by decide) hc.1) ?_
  simp only [Act.put, List.setIfInBounds_toArray, List.set_cons_zero, List.set_cons_succ]
  refine mix_call 49 #[.int .i64 (v 16), .int .i64 1, .int .i64 3] (.bool true) (by rfl) (fun _ => by go_simp) H2.out ?_
  simp only [Act.put, List.setIfInBounds_toArray, List.set_cons_zero, List.set_cons_succ]
  refine mix_val (.bool true) (by rfl) (fun _ _ => by rfl) ?_
  simp only [Act.put, List.setIfInBounds_toArray, List.set_cons_zero, List.set_cons_succ]
  refine mix_store_fact (by rfl) _ _ rfl (w.heap.size + 1) (keepV v) (keepT v t) rfl rfl _ R2.out rfl hone ⟨(setRow_other _ _ _ _ (by omega)).trans F2.out, (setRow_other _ _ _ _ (by omega)).trans G2.out⟩ ?_
  simp only [Act.put]
  refine mix_val (.bool true) (by rfl) (fun _ _ => by rfl) ?_
  simp only [Act.put, List.setIfInBounds_toArray, List.set_cons_zero, List.set_cons_succ]
  refine mix_done ?_
  go_wp2_with fail
  refine bodyPost_ret (results_fact_tmp rfl _ _ (w.heap.size + 1) (keepV v) (keepT v t) _ rfl (setRow_heap _ _ _ _ _ _ R2.out) rfl) rfl ?_
  exact ⟨rfl, below_setRow' (Below.drew (Below.drew (B2.out))) _ _ (by omega)⟩

set_option maxRecDepth 100000 in
set_option maxHeartbeats 8000000 in
theorem fields_4 (v : Nat → Int) (t : ByteArray) (w : World) (hk : v 0 = 4) :
    Calls Tryz.prog 48 #[.agg (factC v t)] w fun e W' => e = .returned (.tuple #[.agg (factC (keepV v) (keepT v t)), .bool (inB (v 9) 1 1000000 && inB (v 11) 0 1199 && decide ((t.size : Int) ≤ 2000))]) ∧ Below w.heap.size w W' := by
  have H0 := Lib.hid (fun W => id_calls (v 9) W)
  generalize inB (v 9) 1 1000000 = e0 at *
  have H1 := Lib.hid (fun W => period_calls (v 11) W)
  generalize inB (v 11) 0 1199 = e1 at *
  generalize he2 : decide ((t.size : Int) ≤ 2000) = e2 at *
  go_enter Tryz.func48, Tryz.ntmps48
  go_upto_region 1 with (fail)
  obtain ⟨W0, hW0, f0, r0, b0⟩ := two_rows w (factC v t) (factC zeroV ⟨#[]⟩) 40 40
  rw [hW0]
  clear hW0
  have F0 := Lib.hid f0
  have R0 := Lib.hid r0
  have B0 := Lib.hid b0
  clear f0 r0 b0
  obtain ⟨c0, -, c2, -⟩ := row18 F0.out
  rw [hk] at c0
  have honeG := factC_one (baseK 4 (v 2)) ⟨#[]⟩
  go_upto_region 2 with (first
      | (refine wpList_store_row rfl 40 _ _ rfl W0.heap.size (factC (baseK 4 (v 2)) ⟨#[]⟩) rfl rfl 40 _ (heap_new W0 _) (hiC _ _) rfl honeG ?_)
      | (refine wpList_load_fact rfl _ rfl w.heap.size rfl v t F0.out ?_)
      | (refine wpList_load_fact rfl _ rfl (w.heap.size + 1) rfl zeroV ⟨#[]⟩ R0.out ?_))
  have hltFG : w.heap.size < W0.heap.size := (Array.getElem?_eq_some_iff.1 F0.out).1
  have hltRG : (w.heap.size + 1) < W0.heap.size := (Array.getElem?_eq_some_iff.1 R0.out).1
  have hBG : w.heap.size ≤ W0.heap.size := B0.out.size
  obtain ⟨W1, hW1, F1, R1, G1, B1, hs1⟩ : ∃ W1, (W0.alloc (.cells (factC zeroV ⟨#[]⟩) 40)).setRow W0.heap.size (factC (baseK 4 (v 2)) ⟨#[]⟩) = W1 ∧ Hid (W1.heap[w.heap.size]? = some (.cells (factC v t) 40 (0, 0))) ∧ Hid (W1.heap[(w.heap.size + 1)]? = some (.cells (factC zeroV ⟨#[]⟩) 40 (0, 0))) ∧ Hid (W1.heap[W0.heap.size]? = some (.cells (factC (baseK 4 (v 2)) ⟨#[]⟩) 40 (0, 0))) ∧ Hid (Below w.heap.size w W1) ∧ Hid (W0.heap.size < W1.heap.size) :=
    ⟨_, rfl, Lib.hid ((setRow_other _ _ _ _ (Nat.ne_of_lt (Array.getElem?_eq_some_iff.1 F0.out).1)).trans (row_aft _ _ _ _ F0.out)), Lib.hid ((setRow_other _ _ _ _ (Nat.ne_of_lt (Array.getElem?_eq_some_iff.1 R0.out).1)).trans (row_aft _ _ _ _ R0.out)), Lib.hid (setRow_heap _ _ _ _ _ _ (heap_new W0 _)), Lib.hid (below_setRow' (B0.out.alloc B0.out.size _) _ _ B0.out.size), Lib.hid (by simp)⟩
  rw [hW1]
  clear hW1 F0 R0 B0
  have hleG := hBG
  clear hBG
  generalize W0.heap.size = AG at *
  clear c0 c2
  obtain ⟨c0, -⟩ := row18 F1.out
  rw [hk] at c0
  go_upto_region 15 with (first
      | (refine wpList_load_fact rfl _ rfl w.heap.size rfl v t F1.out ?_)
      | (refine wpList_load_fact rfl _ rfl (w.heap.size + 1) rfl zeroV ⟨#[]⟩ R1.out ?_)
      | (refine wpList_load_fact rfl _ rfl AG rfl (baseK 4 (v 2)) ⟨#[]⟩ G1.out ?_))
  clear c0
  obtain ⟨-, -, -, -, -, -, -, -, -, d9, -, d11, -, -, -, -, -, d17⟩ := row18 F1.out
  obtain ⟨-, -, -, -, -, -, -, -, -, c9, -, c11, -, -, -, -, -, c17⟩ := row18 G1.out
  have z9 : W1.frozen? ⟨AG, 9, none⟩ = false := frozen_of_row _ _ _ _ _ G1.out
  have z11 : W1.frozen? ⟨AG, 11, none⟩ = false := frozen_of_row _ _ _ _ _ G1.out
  have z17 : W1.frozen? ⟨AG, 17, none⟩ = false := frozen_of_row _ _ _ _ _ G1.out
  have ne1 : ¬ AG = w.heap.size := by omega
  have ne2 : ¬ w.heap.size = AG := by omega
  go_region_held3 (fun w' => w'.cell? ⟨w.heap.size, 9, none⟩ = some (.int .i64 (v 9)) ∧ w'.cell? ⟨w.heap.size, 11, none⟩ = some (.int .i64 (v 11)) ∧ w'.cell? ⟨w.heap.size, 17, none⟩ = some (.string t)) (go_keep) (fail)
  go_upto_region 16 with (first
      | (refine wpList_load_fact rfl _ rfl w.heap.size rfl v t F1.out ?_)
      | (refine wpList_load_fact rfl _ rfl (w.heap.size + 1) rfl zeroV ⟨#[]⟩ R1.out ?_)
      | (refine wpList_load_fact rfl _ rfl AG rfl (baseK 4 (v 2)) ⟨#[]⟩ G1.out ?_))
  obtain ⟨W2, hW2, F2, G2, R2, B2⟩ : ∃ W2, (((W1.setCell ⟨AG, 9, none⟩ (.int .i64 (v 9))).setCell ⟨AG, 11, none⟩ (.int .i64 (v 11))).setCell ⟨AG, 17, none⟩ (.string t)) = W2 ∧ Hid (W2.heap[w.heap.size]? = some (.cells (factC v t) 40 (0, 0))) ∧ Hid (W2.heap[AG]? = some (.cells (factC (setF (setF (baseK 4 (v 2)) 9 (v 9)) 11 (v 11)) t) 40 (0, 0))) ∧ Hid (W2.heap[(w.heap.size + 1)]? = some (.cells (factC zeroV ⟨#[]⟩) 40 (0, 0))) ∧ Hid (Below w.heap.size w W2) :=
    ⟨_, rfl, Lib.hid (other_cell 17 _ (by omega) (other_cell 11 _ (by omega) (other_cell 9 _ (by omega) F1.out))), Lib.hid (setF_text t (setF_cell 11 (v 11) (by omega) (setF_cell 9 (v 9) (by omega) G1.out))), Lib.hid (other_cell 17 _ (by omega) (other_cell 11 _ (by omega) (other_cell 9 _ (by omega) R1.out))), Lib.hid (((B1.out.setCell (p := ⟨AG, 9, none⟩) (show w.heap.size ≤ AG by omega) _).setCell (p := ⟨AG, 11, none⟩) (show w.heap.size ≤ AG by omega) _).setCell (p := ⟨AG, 17, none⟩) (show w.heap.size ≤ AG by omega) _)⟩
  rw [hW2]
  clear hW2 F1 R1 G1 B1
  clear c9 z9 d9 c11 z11 d11 c17 z17 d17
  have hkeep := keep_4 v t hk
  rw [hkeep] at G2
  clear hkeep hk
  have hone := factC_one (keepV v) (keepT v t)
  rcases e0 with _ | _
  · refine wp_region_mix (fun w' => w'.heap[w.heap.size]? = some (.cells (factC v t) 40 (0, 0)) ∧ w'.heap[AG]? = some (.cells (factC (keepV v) (keepT v t)) 40 (0, 0))) [true, true, true, true, true, true, true, true, true, true, true, true, true, true, true, false, true] (by kernel_rfl) (by kernel_rfl) ⟨F2.out, G2.out⟩ ?_
    refine mix_load_fact (by rfl) _ rfl AG rfl (keepV v) (keepT v t) (fun _ hc => hc.2) ?_
    simp only [Act.put, List.setIfInBounds_toArray, List.set_cons_zero, List.set_cons_succ]
    refine mix_val (.pointer (some ⟨w.heap.size, 9, none⟩)) (by rfl) (fun _ _ => by go_simp) ?_
    simp only [Act.put, List.setIfInBounds_toArray, List.set_cons_zero, List.set_cons_succ]
    refine mix_load_int (by rfl) _ rfl ⟨w.heap.size, 9, none⟩ rfl (.int .i64 (v 9)) (fun _ hc => fact_cell 9 (by decide) hc.1) ?_
    simp only [Act.put, List.setIfInBounds_toArray, List.set_cons_zero, List.set_cons_succ]
    refine mix_call 64 #[.int .i64 (v 9)] (.bool false) (by rfl) (fun _ => by go_simp) H0.out ?_
    simp only [Act.put, List.setIfInBounds_toArray, List.set_cons_zero, List.set_cons_succ]
    refine mix_val (.bool false) (by rfl) (fun _ _ => by rfl) ?_
    simp only [Act.put, List.setIfInBounds_toArray, List.set_cons_zero, List.set_cons_succ]
    refine mix_off (by rfl) ?_
    simp only [Act.put, List.setIfInBounds_toArray, List.set_cons_zero, List.set_cons_succ]
    refine mix_off (by rfl) ?_
    simp only [Act.put, List.setIfInBounds_toArray, List.set_cons_zero, List.set_cons_succ]
    refine mix_off (by rfl) ?_
    simp only [Act.put, List.setIfInBounds_toArray, List.set_cons_zero, List.set_cons_succ]
    refine mix_val (.bool false) (by rfl) (fun _ _ => by rfl) ?_
    simp only [Act.put, List.setIfInBounds_toArray, List.set_cons_zero, List.set_cons_succ]
    refine mix_val (.bool false) (by rfl) (fun _ _ => by rfl) ?_
    simp only [Act.put, List.setIfInBounds_toArray, List.set_cons_zero, List.set_cons_succ]
    refine mix_off (by rfl) ?_
    simp only [Act.put, List.setIfInBounds_toArray, List.set_cons_zero, List.set_cons_succ]
    refine mix_off (by rfl) ?_
    simp only [Act.put, List.setIfInBounds_toArray, List.set_cons_zero, List.set_cons_succ]
    refine mix_off (by rfl) ?_
    simp only [Act.put, List.setIfInBounds_toArray, List.set_cons_zero, List.set_cons_succ]
    refine mix_off (by rfl) ?_
    simp only [Act.put, List.setIfInBounds_toArray, List.set_cons_zero, List.set_cons_succ]
    refine mix_val (.bool false) (by rfl) (fun _ _ => by rfl) ?_
    simp only [Act.put, List.setIfInBounds_toArray, List.set_cons_zero, List.set_cons_succ]
    refine mix_store_fact (by rfl) _ _ rfl (w.heap.size + 1) (keepV v) (keepT v t) rfl rfl _ R2.out rfl hone ⟨(setRow_other _ _ _ _ (by omega)).trans F2.out, (setRow_other _ _ _ _ (by omega)).trans G2.out⟩ ?_
    simp only [Act.put]
    refine mix_val (.bool false) (by rfl) (fun _ _ => by rfl) ?_
    simp only [Act.put, List.setIfInBounds_toArray, List.set_cons_zero, List.set_cons_succ]
    refine mix_done ?_
    go_wp2_with fail
    refine bodyPost_ret (results_fact_tmp rfl _ _ (w.heap.size + 1) (keepV v) (keepT v t) _ rfl (setRow_heap _ _ _ _ _ _ R2.out) rfl) rfl ?_
    exact ⟨rfl, below_setRow' (Below.drew (Below.drew (B2.out))) _ _ (by omega)⟩
  rcases e1 with _ | _
  · refine wp_region_mix (fun w' => w'.heap[w.heap.size]? = some (.cells (factC v t) 40 (0, 0)) ∧ w'.heap[AG]? = some (.cells (factC (keepV v) (keepT v t)) 40 (0, 0))) [true, true, true, true, true, true, true, true, true, true, true, true, true, true, true, false, true] (by kernel_rfl) (by kernel_rfl) ⟨F2.out, G2.out⟩ ?_
    refine mix_load_fact (by rfl) _ rfl AG rfl (keepV v) (keepT v t) (fun _ hc => hc.2) ?_
    simp only [Act.put, List.setIfInBounds_toArray, List.set_cons_zero, List.set_cons_succ]
    refine mix_val (.pointer (some ⟨w.heap.size, 9, none⟩)) (by rfl) (fun _ _ => by go_simp) ?_
    simp only [Act.put, List.setIfInBounds_toArray, List.set_cons_zero, List.set_cons_succ]
    refine mix_load_int (by rfl) _ rfl ⟨w.heap.size, 9, none⟩ rfl (.int .i64 (v 9)) (fun _ hc => fact_cell 9 (by decide) hc.1) ?_
    simp only [Act.put, List.setIfInBounds_toArray, List.set_cons_zero, List.set_cons_succ]
    refine mix_call 64 #[.int .i64 (v 9)] (.bool true) (by rfl) (fun _ => by go_simp) H0.out ?_
    simp only [Act.put, List.setIfInBounds_toArray, List.set_cons_zero, List.set_cons_succ]
    refine mix_val (.bool true) (by rfl) (fun _ _ => by rfl) ?_
    simp only [Act.put, List.setIfInBounds_toArray, List.set_cons_zero, List.set_cons_succ]
    refine mix_val (.pointer (some ⟨w.heap.size, 11, none⟩)) (by rfl) (fun _ _ => by go_simp) ?_
    simp only [Act.put, List.setIfInBounds_toArray, List.set_cons_zero, List.set_cons_succ]
    refine mix_load_int (by rfl) _ rfl ⟨w.heap.size, 11, none⟩ rfl (.int .i64 (v 11)) (fun _ hc => fact_cell 11 (by decide) hc.1) ?_
    simp only [Act.put, List.setIfInBounds_toArray, List.set_cons_zero, List.set_cons_succ]
    refine mix_call 66 #[.int .i64 (v 11)] (.bool false) (by rfl) (fun _ => by go_simp) H1.out ?_
    simp only [Act.put, List.setIfInBounds_toArray, List.set_cons_zero, List.set_cons_succ]
    refine mix_val (.bool false) (by rfl) (fun _ _ => by rfl) ?_
    simp only [Act.put, List.setIfInBounds_toArray, List.set_cons_zero, List.set_cons_succ]
    refine mix_val (.bool false) (by rfl) (fun _ _ => by rfl) ?_
    simp only [Act.put, List.setIfInBounds_toArray, List.set_cons_zero, List.set_cons_succ]
    refine mix_off (by rfl) ?_
    simp only [Act.put, List.setIfInBounds_toArray, List.set_cons_zero, List.set_cons_succ]
    refine mix_off (by rfl) ?_
    simp only [Act.put, List.setIfInBounds_toArray, List.set_cons_zero, List.set_cons_succ]
    refine mix_off (by rfl) ?_
    simp only [Act.put, List.setIfInBounds_toArray, List.set_cons_zero, List.set_cons_succ]
    refine mix_off (by rfl) ?_
    simp only [Act.put, List.setIfInBounds_toArray, List.set_cons_zero, List.set_cons_succ]
    refine mix_val (.bool false) (by rfl) (fun _ _ => by rfl) ?_
    simp only [Act.put, List.setIfInBounds_toArray, List.set_cons_zero, List.set_cons_succ]
    refine mix_store_fact (by rfl) _ _ rfl (w.heap.size + 1) (keepV v) (keepT v t) rfl rfl _ R2.out rfl hone ⟨(setRow_other _ _ _ _ (by omega)).trans F2.out, (setRow_other _ _ _ _ (by omega)).trans G2.out⟩ ?_
    simp only [Act.put]
    refine mix_val (.bool false) (by rfl) (fun _ _ => by rfl) ?_
    simp only [Act.put, List.setIfInBounds_toArray, List.set_cons_zero, List.set_cons_succ]
    refine mix_done ?_
    go_wp2_with fail
    refine bodyPost_ret (results_fact_tmp rfl _ _ (w.heap.size + 1) (keepV v) (keepT v t) _ rfl (setRow_heap _ _ _ _ _ _ R2.out) rfl) rfl ?_
    exact ⟨rfl, below_setRow' (Below.drew (Below.drew (B2.out))) _ _ (by omega)⟩
  rcases e2 with _ | _
  · refine wp_region_mix (fun w' => w'.heap[w.heap.size]? = some (.cells (factC v t) 40 (0, 0)) ∧ w'.heap[AG]? = some (.cells (factC (keepV v) (keepT v t)) 40 (0, 0))) [true, true, true, true, true, true, true, true, true, true, true, true, true, true, true, false, true] (by kernel_rfl) (by kernel_rfl) ⟨F2.out, G2.out⟩ ?_
    refine mix_load_fact (by rfl) _ rfl AG rfl (keepV v) (keepT v t) (fun _ hc => hc.2) ?_
    simp only [Act.put, List.setIfInBounds_toArray, List.set_cons_zero, List.set_cons_succ]
    refine mix_val (.pointer (some ⟨w.heap.size, 9, none⟩)) (by rfl) (fun _ _ => by go_simp) ?_
    simp only [Act.put, List.setIfInBounds_toArray, List.set_cons_zero, List.set_cons_succ]
    refine mix_load_int (by rfl) _ rfl ⟨w.heap.size, 9, none⟩ rfl (.int .i64 (v 9)) (fun _ hc => fact_cell 9 (by decide) hc.1) ?_
    simp only [Act.put, List.setIfInBounds_toArray, List.set_cons_zero, List.set_cons_succ]
    refine mix_call 64 #[.int .i64 (v 9)] (.bool true) (by rfl) (fun _ => by go_simp) H0.out ?_
    simp only [Act.put, List.setIfInBounds_toArray, List.set_cons_zero, List.set_cons_succ]
    refine mix_val (.bool true) (by rfl) (fun _ _ => by rfl) ?_
    simp only [Act.put, List.setIfInBounds_toArray, List.set_cons_zero, List.set_cons_succ]
    refine mix_val (.pointer (some ⟨w.heap.size, 11, none⟩)) (by rfl) (fun _ _ => by go_simp) ?_
    simp only [Act.put, List.setIfInBounds_toArray, List.set_cons_zero, List.set_cons_succ]
    refine mix_load_int (by rfl) _ rfl ⟨w.heap.size, 11, none⟩ rfl (.int .i64 (v 11)) (fun _ hc => fact_cell 11 (by decide) hc.1) ?_
    simp only [Act.put, List.setIfInBounds_toArray, List.set_cons_zero, List.set_cons_succ]
    refine mix_call 66 #[.int .i64 (v 11)] (.bool true) (by rfl) (fun _ => by go_simp) H1.out ?_
    simp only [Act.put, List.setIfInBounds_toArray, List.set_cons_zero, List.set_cons_succ]
    refine mix_val (.bool true) (by rfl) (fun _ _ => by rfl) ?_
    simp only [Act.put, List.setIfInBounds_toArray, List.set_cons_zero, List.set_cons_succ]
    refine mix_val (.bool true) (by rfl) (fun _ _ => by rfl) ?_
    simp only [Act.put, List.setIfInBounds_toArray, List.set_cons_zero, List.set_cons_succ]
    refine mix_val (.pointer (some ⟨w.heap.size, 17, none⟩)) (by rfl) (fun _ _ => by go_simp) ?_
    simp only [Act.put, List.setIfInBounds_toArray, List.set_cons_zero, List.set_cons_succ]
    refine mix_load_str (by rfl) _ rfl ⟨w.heap.size, 17, none⟩ rfl (.string t) (fun _ hc => fact_text hc.1) ?_
    simp only [Act.put, List.setIfInBounds_toArray, List.set_cons_zero, List.set_cons_succ]
    refine mix_val (.int .i64 (t.size : Int)) (by rfl) (fun _ _ => by go_simp) ?_
    simp only [Act.put, List.setIfInBounds_toArray, List.set_cons_zero, List.set_cons_succ]
    refine mix_val (.bool false) (by rfl) (fun _ _ => by go_simp) ?_
    simp only [Act.put, List.setIfInBounds_toArray, List.set_cons_zero, List.set_cons_succ]
    refine mix_val (.bool false) (by rfl) (fun _ _ => by rfl) ?_
    simp only [Act.put, List.setIfInBounds_toArray, List.set_cons_zero, List.set_cons_succ]
    refine mix_store_fact (by rfl) _ _ rfl (w.heap.size + 1) (keepV v) (keepT v t) rfl rfl _ R2.out rfl hone ⟨(setRow_other _ _ _ _ (by omega)).trans F2.out, (setRow_other _ _ _ _ (by omega)).trans G2.out⟩ ?_
    simp only [Act.put]
    refine mix_val (.bool false) (by rfl) (fun _ _ => by rfl) ?_
    simp only [Act.put, List.setIfInBounds_toArray, List.set_cons_zero, List.set_cons_succ]
    refine mix_done ?_
    go_wp2_with fail
    refine bodyPost_ret (results_fact_tmp rfl _ _ (w.heap.size + 1) (keepV v) (keepT v t) _ rfl (setRow_heap _ _ _ _ _ _ R2.out) rfl) rfl ?_
    exact ⟨rfl, below_setRow' (Below.drew (Below.drew (B2.out))) _ _ (by omega)⟩
  refine wp_region_mix (fun w' => w'.heap[w.heap.size]? = some (.cells (factC v t) 40 (0, 0)) ∧ w'.heap[AG]? = some (.cells (factC (keepV v) (keepT v t)) 40 (0, 0))) [true, true, true, true, true, true, true, true, true, true, true, true, true, true, true, false, true] (by kernel_rfl) (by kernel_rfl) ⟨F2.out, G2.out⟩ ?_
  refine mix_load_fact (by rfl) _ rfl AG rfl (keepV v) (keepT v t) (fun _ hc => hc.2) ?_
  simp only [Act.put, List.setIfInBounds_toArray, List.set_cons_zero, List.set_cons_succ]
  refine mix_val (.pointer (some ⟨w.heap.size, 9, none⟩)) (by rfl) (fun _ _ => by go_simp) ?_
  simp only [Act.put, List.setIfInBounds_toArray, List.set_cons_zero, List.set_cons_succ]
  refine mix_load_int (by rfl) _ rfl ⟨w.heap.size, 9, none⟩ rfl (.int .i64 (v 9)) (fun _ hc => fact_cell 9 (by decide) hc.1) ?_
  simp only [Act.put, List.setIfInBounds_toArray, List.set_cons_zero, List.set_cons_succ]
  refine mix_call 64 #[.int .i64 (v 9)] (.bool true) (by rfl) (fun _ => by go_simp) H0.out ?_
  simp only [Act.put, List.setIfInBounds_toArray, List.set_cons_zero, List.set_cons_succ]
  refine mix_val (.bool true) (by rfl) (fun _ _ => by rfl) ?_
  simp only [Act.put, List.setIfInBounds_toArray, List.set_cons_zero, List.set_cons_succ]
  refine mix_val (.pointer (some ⟨w.heap.size, 11, none⟩)) (by rfl) (fun _ _ => by go_simp) ?_
  simp only [Act.put, List.setIfInBounds_toArray, List.set_cons_zero, List.set_cons_succ]
  refine mix_load_int (by rfl) _ rfl ⟨w.heap.size, 11, none⟩ rfl (.int .i64 (v 11)) (fun _ hc => fact_cell 11 (by decide) hc.1) ?_
  simp only [Act.put, List.setIfInBounds_toArray, List.set_cons_zero, List.set_cons_succ]
  refine mix_call 66 #[.int .i64 (v 11)] (.bool true) (by rfl) (fun _ => by go_simp) H1.out ?_
  simp only [Act.put, List.setIfInBounds_toArray, List.set_cons_zero, List.set_cons_succ]
  refine mix_val (.bool true) (by rfl) (fun _ _ => by rfl) ?_
  simp only [Act.put, List.setIfInBounds_toArray, List.set_cons_zero, List.set_cons_succ]
  refine mix_val (.bool true) (by rfl) (fun _ _ => by rfl) ?_
  simp only [Act.put, List.setIfInBounds_toArray, List.set_cons_zero, List.set_cons_succ]
  refine mix_val (.pointer (some ⟨w.heap.size, 17, none⟩)) (by rfl) (fun _ _ => by go_simp) ?_
  simp only [Act.put, List.setIfInBounds_toArray, List.set_cons_zero, List.set_cons_succ]
  refine mix_load_str (by rfl) _ rfl ⟨w.heap.size, 17, none⟩ rfl (.string t) (fun _ hc => fact_text hc.1) ?_
  simp only [Act.put, List.setIfInBounds_toArray, List.set_cons_zero, List.set_cons_succ]
  refine mix_val (.int .i64 (t.size : Int)) (by rfl) (fun _ _ => by go_simp) ?_
  simp only [Act.put, List.setIfInBounds_toArray, List.set_cons_zero, List.set_cons_succ]
  refine mix_val (.bool true) (by rfl) (fun _ _ => by go_simp) ?_
  simp only [Act.put, List.setIfInBounds_toArray, List.set_cons_zero, List.set_cons_succ]
  refine mix_val (.bool true) (by rfl) (fun _ _ => by rfl) ?_
  simp only [Act.put, List.setIfInBounds_toArray, List.set_cons_zero, List.set_cons_succ]
  refine mix_store_fact (by rfl) _ _ rfl (w.heap.size + 1) (keepV v) (keepT v t) rfl rfl _ R2.out rfl hone ⟨(setRow_other _ _ _ _ (by omega)).trans F2.out, (setRow_other _ _ _ _ (by omega)).trans G2.out⟩ ?_
  simp only [Act.put]
  refine mix_val (.bool true) (by rfl) (fun _ _ => by rfl) ?_
  simp only [Act.put, List.setIfInBounds_toArray, List.set_cons_zero, List.set_cons_succ]
  refine mix_done ?_
  go_wp2_with fail
  refine bodyPost_ret (results_fact_tmp rfl _ _ (w.heap.size + 1) (keepV v) (keepT v t) _ rfl (setRow_heap _ _ _ _ _ _ R2.out) rfl) rfl ?_
  exact ⟨rfl, below_setRow' (Below.drew (Below.drew (B2.out))) _ _ (by omega)⟩

set_option maxRecDepth 100000 in
set_option maxHeartbeats 8000000 in
theorem fields_5 (v : Nat → Int) (t : ByteArray) (w : World) (hk : v 0 = 5) :
    Calls Tryz.prog 48 #[.agg (factC v t)] w fun e W' => e = .returned (.tuple #[.agg (factC (keepV v) (keepT v t)), .bool (inB (v 1) 1 1000000 && inB (v 3) 0 1199 && inB (v 8) 0 7 && inB (v 13) 0 10000000000 && inB (v 15) 0 20)]) ∧ Below w.heap.size w W' := by
  have H0 := Lib.hid (fun W => id_calls (v 1) W)
  generalize inB (v 1) 1 1000000 = e0 at *
  have H1 := Lib.hid (fun W => period_calls (v 3) W)
  generalize inB (v 3) 0 1199 = e1 at *
  have H2 := Lib.hid (fun W => territory_calls (v 8) W)
  generalize inB (v 8) 0 7 = e2 at *
  have H3 := Lib.hid (fun W => within_calls (v 13) 0 10000000000 W)
  generalize inB (v 13) 0 10000000000 = e3 at *
  have H4 := Lib.hid (fun W => within_calls (v 15) 0 20 W)
  generalize inB (v 15) 0 20 = e4 at *
  go_enter Tryz.func48, Tryz.ntmps48
  go_upto_region 1 with (fail)
  obtain ⟨W0, hW0, f0, r0, b0⟩ := two_rows w (factC v t) (factC zeroV ⟨#[]⟩) 40 40
  rw [hW0]
  clear hW0
  have F0 := Lib.hid f0
  have R0 := Lib.hid r0
  have B0 := Lib.hid b0
  clear f0 r0 b0
  obtain ⟨c0, -, c2, -⟩ := row18 F0.out
  rw [hk] at c0
  have honeG := factC_one (baseK 5 (v 2)) ⟨#[]⟩
  go_upto_region 2 with (first
      | (refine wpList_store_row rfl 40 _ _ rfl W0.heap.size (factC (baseK 5 (v 2)) ⟨#[]⟩) rfl rfl 40 _ (heap_new W0 _) (hiC _ _) rfl honeG ?_)
      | (refine wpList_load_fact rfl _ rfl w.heap.size rfl v t F0.out ?_)
      | (refine wpList_load_fact rfl _ rfl (w.heap.size + 1) rfl zeroV ⟨#[]⟩ R0.out ?_))
  have hltFG : w.heap.size < W0.heap.size := (Array.getElem?_eq_some_iff.1 F0.out).1
  have hltRG : (w.heap.size + 1) < W0.heap.size := (Array.getElem?_eq_some_iff.1 R0.out).1
  have hBG : w.heap.size ≤ W0.heap.size := B0.out.size
  obtain ⟨W1, hW1, F1, R1, G1, B1, hs1⟩ : ∃ W1, (W0.alloc (.cells (factC zeroV ⟨#[]⟩) 40)).setRow W0.heap.size (factC (baseK 5 (v 2)) ⟨#[]⟩) = W1 ∧ Hid (W1.heap[w.heap.size]? = some (.cells (factC v t) 40 (0, 0))) ∧ Hid (W1.heap[(w.heap.size + 1)]? = some (.cells (factC zeroV ⟨#[]⟩) 40 (0, 0))) ∧ Hid (W1.heap[W0.heap.size]? = some (.cells (factC (baseK 5 (v 2)) ⟨#[]⟩) 40 (0, 0))) ∧ Hid (Below w.heap.size w W1) ∧ Hid (W0.heap.size < W1.heap.size) :=
    ⟨_, rfl, Lib.hid ((setRow_other _ _ _ _ (Nat.ne_of_lt (Array.getElem?_eq_some_iff.1 F0.out).1)).trans (row_aft _ _ _ _ F0.out)), Lib.hid ((setRow_other _ _ _ _ (Nat.ne_of_lt (Array.getElem?_eq_some_iff.1 R0.out).1)).trans (row_aft _ _ _ _ R0.out)), Lib.hid (setRow_heap _ _ _ _ _ _ (heap_new W0 _)), Lib.hid (below_setRow' (B0.out.alloc B0.out.size _) _ _ B0.out.size), Lib.hid (by simp)⟩
  rw [hW1]
  clear hW1 F0 R0 B0
  have hleG := hBG
  clear hBG
  generalize W0.heap.size = AG at *
  clear c0 c2
  obtain ⟨c0, -⟩ := row18 F1.out
  rw [hk] at c0
  go_upto_region 18 with (first
      | (refine wpList_load_fact rfl _ rfl w.heap.size rfl v t F1.out ?_)
      | (refine wpList_load_fact rfl _ rfl (w.heap.size + 1) rfl zeroV ⟨#[]⟩ R1.out ?_)
      | (refine wpList_load_fact rfl _ rfl AG rfl (baseK 5 (v 2)) ⟨#[]⟩ G1.out ?_))
  clear c0
  obtain ⟨-, d1, -, d3, -, -, -, -, d8, -, -, -, -, d13, -, d15, -⟩ := row18 F1.out
  obtain ⟨-, c1, -, c3, -, -, -, -, c8, -, -, -, -, c13, -, c15, -⟩ := row18 G1.out
  have z1 : W1.frozen? ⟨AG, 1, none⟩ = false := frozen_of_row _ _ _ _ _ G1.out
  have z3 : W1.frozen? ⟨AG, 3, none⟩ = false := frozen_of_row _ _ _ _ _ G1.out
  have z8 : W1.frozen? ⟨AG, 8, none⟩ = false := frozen_of_row _ _ _ _ _ G1.out
  have z13 : W1.frozen? ⟨AG, 13, none⟩ = false := frozen_of_row _ _ _ _ _ G1.out
  have z15 : W1.frozen? ⟨AG, 15, none⟩ = false := frozen_of_row _ _ _ _ _ G1.out
  have ne1 : ¬ AG = w.heap.size := by omega
  have ne2 : ¬ w.heap.size = AG := by omega
  go_region_held3 (fun w' => w'.cell? ⟨w.heap.size, 1, none⟩ = some (.int .i64 (v 1)) ∧ w'.cell? ⟨w.heap.size, 3, none⟩ = some (.int .i64 (v 3)) ∧ w'.cell? ⟨w.heap.size, 8, none⟩ = some (.int .i64 (v 8)) ∧ w'.cell? ⟨w.heap.size, 13, none⟩ = some (.int .i64 (v 13)) ∧ w'.cell? ⟨w.heap.size, 15, none⟩ = some (.int .i64 (v 15))) (go_keep) (fail)
  go_upto_region 19 with (first
      | (refine wpList_load_fact rfl _ rfl w.heap.size rfl v t F1.out ?_)
      | (refine wpList_load_fact rfl _ rfl (w.heap.size + 1) rfl zeroV ⟨#[]⟩ R1.out ?_)
      | (refine wpList_load_fact rfl _ rfl AG rfl (baseK 5 (v 2)) ⟨#[]⟩ G1.out ?_))
  obtain ⟨W2, hW2, F2, G2, R2, B2⟩ : ∃ W2, (((((W1.setCell ⟨AG, 1, none⟩ (.int .i64 (v 1))).setCell ⟨AG, 3, none⟩ (.int .i64 (v 3))).setCell ⟨AG, 8, none⟩ (.int .i64 (v 8))).setCell ⟨AG, 13, none⟩ (.int .i64 (v 13))).setCell ⟨AG, 15, none⟩ (.int .i64 (v 15))) = W2 ∧ Hid (W2.heap[w.heap.size]? = some (.cells (factC v t) 40 (0, 0))) ∧ Hid (W2.heap[AG]? = some (.cells (factC (setF (setF (setF (setF (setF (baseK 5 (v 2)) 1 (v 1)) 3 (v 3)) 8 (v 8)) 13 (v 13)) 15 (v 15)) ⟨#[]⟩) 40 (0, 0))) ∧ Hid (W2.heap[(w.heap.size + 1)]? = some (.cells (factC zeroV ⟨#[]⟩) 40 (0, 0))) ∧ Hid (Below w.heap.size w W2) :=
    ⟨_, rfl, Lib.hid (other_cell 15 _ (by omega) (other_cell 13 _ (by omega) (other_cell 8 _ (by omega) (other_cell 3 _ (by omega) (other_cell 1 _ (by omega) F1.out))))), Lib.hid (setF_cell 15 (v 15) (by omega) (setF_cell 13 (v 13) (by omega) (setF_cell 8 (v 8) (by omega) (setF_cell 3 (v 3) (by omega) (setF_cell 1 (v 1) (by omega) G1.out))))), Lib.hid (other_cell 15 _ (by omega) (other_cell 13 _ (by omega) (other_cell 8 _ (by omega) (other_cell 3 _ (by omega) (other_cell 1 _ (by omega) R1.out))))), Lib.hid (((((B1.out.setCell (p := ⟨AG, 1, none⟩) (show w.heap.size ≤ AG by omega) _).setCell (p := ⟨AG, 3, none⟩) (show w.heap.size ≤ AG by omega) _).setCell (p := ⟨AG, 8, none⟩) (show w.heap.size ≤ AG by omega) _).setCell (p := ⟨AG, 13, none⟩) (show w.heap.size ≤ AG by omega) _).setCell (p := ⟨AG, 15, none⟩) (show w.heap.size ≤ AG by omega) _)⟩
  rw [hW2]
  clear hW2 F1 R1 G1 B1
  clear c1 z1 d1 c3 z3 d3 c8 z8 d8 c13 z13 d13 c15 z15 d15
  have hkeep := keep_5 v t hk
  rw [hkeep] at G2
  clear hkeep hk
  have hone := factC_one (keepV v) (keepT v t)
  rcases e0 with _ | _
  · refine wp_region_mix (fun w' => w'.heap[w.heap.size]? = some (.cells (factC v t) 40 (0, 0)) ∧ w'.heap[AG]? = some (.cells (factC (keepV v) (keepT v t)) 40 (0, 0))) [true, true, true, true, true, true, true, true, true, true, true, true, true, true, true, true, true, true, true, true, true, true, true, true, false, true] (by kernel_rfl) (by kernel_rfl) ⟨F2.out, G2.out⟩ ?_
    refine mix_load_fact (by rfl) _ rfl AG rfl (keepV v) (keepT v t) (fun _ hc => hc.2) ?_
    simp only [Act.put, List.setIfInBounds_toArray, List.set_cons_zero, List.set_cons_succ]
    refine mix_val (.pointer (some ⟨w.heap.size, 1, none⟩)) (by rfl) (fun _ _ => by go_simp) ?_
    simp only [Act.put, List.setIfInBounds_toArray, List.set_cons_zero, List.set_cons_succ]
    refine mix_load_int (by rfl) _ rfl ⟨w.heap.size, 1, none⟩ rfl (.int .i64 (v 1)) (fun _ hc => fact_cell 1 (by decide) hc.1) ?_
    simp only [Act.put, List.setIfInBounds_toArray, List.set_cons_zero, List.set_cons_succ]
    refine mix_call 64 #[.int .i64 (v 1)] (.bool false) (by rfl) (fun _ => by go_simp) H0.out ?_
    simp only [Act.put, List.setIfInBounds_toArray, List.set_cons_zero, List.set_cons_succ]
    refine mix_val (.bool false) (by rfl) (fun _ _ => by rfl) ?_
    simp only [Act.put, List.setIfInBounds_toArray, List.set_cons_zero, List.set_cons_succ]
    refine mix_off (by rfl) ?_
    simp only [Act.put, List.setIfInBounds_toArray, List.set_cons_zero, List.set_cons_succ]
    refine mix_off (by rfl) ?_
    simp only [Act.put, List.setIfInBounds_toArray, List.set_cons_zero, List.set_cons_succ]
    refine mix_off (by rfl) ?_
    simp only [Act.put, List.setIfInBounds_toArray, List.set_cons_zero, List.set_cons_succ]
    refine mix_val (.bool false) (by rfl) (fun _ _ => by rfl) ?_
    simp only [Act.put, List.setIfInBounds_toArray, List.set_cons_zero, List.set_cons_succ]
    refine mix_val (.bool false) (by rfl) (fun _ _ => by rfl) ?_
    simp only [Act.put, List.setIfInBounds_toArray, List.set_cons_zero, List.set_cons_succ]
    refine mix_off (by rfl) ?_
    simp only [Act.put, List.setIfInBounds_toArray, List.set_cons_zero, List.set_cons_succ]
    refine mix_off (by rfl) ?_
    simp only [Act.put, List.setIfInBounds_toArray, List.set_cons_zero, List.set_cons_succ]
    refine mix_off (by rfl) ?_
    simp only [Act.put, List.setIfInBounds_toArray, List.set_cons_zero, List.set_cons_succ]
    refine mix_val (.bool false) (by rfl) (fun _ _ => by rfl) ?_
    simp only [Act.put, List.setIfInBounds_toArray, List.set_cons_zero, List.set_cons_succ]
    refine mix_val (.bool false) (by rfl) (fun _ _ => by rfl) ?_
    simp only [Act.put, List.setIfInBounds_toArray, List.set_cons_zero, List.set_cons_succ]
    refine mix_off (by rfl) ?_
    simp only [Act.put, List.setIfInBounds_toArray, List.set_cons_zero, List.set_cons_succ]
    refine mix_off (by rfl) ?_
    simp only [Act.put, List.setIfInBounds_toArray, List.set_cons_zero, List.set_cons_succ]
    refine mix_off (by rfl) ?_
    simp only [Act.put, List.setIfInBounds_toArray, List.set_cons_zero, List.set_cons_succ]
    refine mix_val (.bool false) (by rfl) (fun _ _ => by rfl) ?_
    simp only [Act.put, List.setIfInBounds_toArray, List.set_cons_zero, List.set_cons_succ]
    refine mix_val (.bool false) (by rfl) (fun _ _ => by rfl) ?_
    simp only [Act.put, List.setIfInBounds_toArray, List.set_cons_zero, List.set_cons_succ]
    refine mix_off (by rfl) ?_
    simp only [Act.put, List.setIfInBounds_toArray, List.set_cons_zero, List.set_cons_succ]
    refine mix_off (by rfl) ?_
    simp only [Act.put, List.setIfInBounds_toArray, List.set_cons_zero, List.set_cons_succ]
    refine mix_off (by rfl) ?_
    simp only [Act.put, List.setIfInBounds_toArray, List.set_cons_zero, List.set_cons_succ]
    refine mix_val (.bool false) (by rfl) (fun _ _ => by rfl) ?_
    simp only [Act.put, List.setIfInBounds_toArray, List.set_cons_zero, List.set_cons_succ]
    refine mix_store_fact (by rfl) _ _ rfl (w.heap.size + 1) (keepV v) (keepT v t) rfl rfl _ R2.out rfl hone ⟨(setRow_other _ _ _ _ (by omega)).trans F2.out, (setRow_other _ _ _ _ (by omega)).trans G2.out⟩ ?_
    simp only [Act.put]
    refine mix_val (.bool false) (by rfl) (fun _ _ => by rfl) ?_
    simp only [Act.put, List.setIfInBounds_toArray, List.set_cons_zero, List.set_cons_succ]
    refine mix_done ?_
    go_wp2_with fail
    refine bodyPost_ret (results_fact_tmp rfl _ _ (w.heap.size + 1) (keepV v) (keepT v t) _ rfl (setRow_heap _ _ _ _ _ _ R2.out) rfl) rfl ?_
    exact ⟨rfl, below_setRow' (Below.drew (Below.drew (B2.out))) _ _ (by omega)⟩
  rcases e1 with _ | _
  · refine wp_region_mix (fun w' => w'.heap[w.heap.size]? = some (.cells (factC v t) 40 (0, 0)) ∧ w'.heap[AG]? = some (.cells (factC (keepV v) (keepT v t)) 40 (0, 0))) [true, true, true, true, true, true, true, true, true, true, true, true, true, true, true, true, true, true, true, true, true, true, true, true, false, true] (by kernel_rfl) (by kernel_rfl) ⟨F2.out, G2.out⟩ ?_
    refine mix_load_fact (by rfl) _ rfl AG rfl (keepV v) (keepT v t) (fun _ hc => hc.2) ?_
    simp only [Act.put, List.setIfInBounds_toArray, List.set_cons_zero, List.set_cons_succ]
    refine mix_val (.pointer (some ⟨w.heap.size, 1, none⟩)) (by rfl) (fun _ _ => by go_simp) ?_
    simp only [Act.put, List.setIfInBounds_toArray, List.set_cons_zero, List.set_cons_succ]
    refine mix_load_int (by rfl) _ rfl ⟨w.heap.size, 1, none⟩ rfl (.int .i64 (v 1)) (fun _ hc => fact_cell 1 (by decide) hc.1) ?_
    simp only [Act.put, List.setIfInBounds_toArray, List.set_cons_zero, List.set_cons_succ]
    refine mix_call 64 #[.int .i64 (v 1)] (.bool true) (by rfl) (fun _ => by go_simp) H0.out ?_
    simp only [Act.put, List.setIfInBounds_toArray, List.set_cons_zero, List.set_cons_succ]
    refine mix_val (.bool true) (by rfl) (fun _ _ => by rfl) ?_
    simp only [Act.put, List.setIfInBounds_toArray, List.set_cons_zero, List.set_cons_succ]
    refine mix_val (.pointer (some ⟨w.heap.size, 3, none⟩)) (by rfl) (fun _ _ => by go_simp) ?_
    simp only [Act.put, List.setIfInBounds_toArray, List.set_cons_zero, List.set_cons_succ]
    refine mix_load_int (by rfl) _ rfl ⟨w.heap.size, 3, none⟩ rfl (.int .i64 (v 3)) (fun _ hc => fact_cell 3 (by decide) hc.1) ?_
    simp only [Act.put, List.setIfInBounds_toArray, List.set_cons_zero, List.set_cons_succ]
    refine mix_call 66 #[.int .i64 (v 3)] (.bool false) (by rfl) (fun _ => by go_simp) H1.out ?_
    simp only [Act.put, List.setIfInBounds_toArray, List.set_cons_zero, List.set_cons_succ]
    refine mix_val (.bool false) (by rfl) (fun _ _ => by rfl) ?_
    simp only [Act.put, List.setIfInBounds_toArray, List.set_cons_zero, List.set_cons_succ]
    refine mix_val (.bool false) (by rfl) (fun _ _ => by rfl) ?_
    simp only [Act.put, List.setIfInBounds_toArray, List.set_cons_zero, List.set_cons_succ]
    refine mix_off (by rfl) ?_
    simp only [Act.put, List.setIfInBounds_toArray, List.set_cons_zero, List.set_cons_succ]
    refine mix_off (by rfl) ?_
    simp only [Act.put, List.setIfInBounds_toArray, List.set_cons_zero, List.set_cons_succ]
    refine mix_off (by rfl) ?_
    simp only [Act.put, List.setIfInBounds_toArray, List.set_cons_zero, List.set_cons_succ]
    refine mix_val (.bool false) (by rfl) (fun _ _ => by rfl) ?_
    simp only [Act.put, List.setIfInBounds_toArray, List.set_cons_zero, List.set_cons_succ]
    refine mix_val (.bool false) (by rfl) (fun _ _ => by rfl) ?_
    simp only [Act.put, List.setIfInBounds_toArray, List.set_cons_zero, List.set_cons_succ]
    refine mix_off (by rfl) ?_
    simp only [Act.put, List.setIfInBounds_toArray, List.set_cons_zero, List.set_cons_succ]
    refine mix_off (by rfl) ?_
    simp only [Act.put, List.setIfInBounds_toArray, List.set_cons_zero, List.set_cons_succ]
    refine mix_off (by rfl) ?_
    simp only [Act.put, List.setIfInBounds_toArray, List.set_cons_zero, List.set_cons_succ]
    refine mix_val (.bool false) (by rfl) (fun _ _ => by rfl) ?_
    simp only [Act.put, List.setIfInBounds_toArray, List.set_cons_zero, List.set_cons_succ]
    refine mix_val (.bool false) (by rfl) (fun _ _ => by rfl) ?_
    simp only [Act.put, List.setIfInBounds_toArray, List.set_cons_zero, List.set_cons_succ]
    refine mix_off (by rfl) ?_
    simp only [Act.put, List.setIfInBounds_toArray, List.set_cons_zero, List.set_cons_succ]
    refine mix_off (by rfl) ?_
    simp only [Act.put, List.setIfInBounds_toArray, List.set_cons_zero, List.set_cons_succ]
    refine mix_off (by rfl) ?_
    simp only [Act.put, List.setIfInBounds_toArray, List.set_cons_zero, List.set_cons_succ]
    refine mix_val (.bool false) (by rfl) (fun _ _ => by rfl) ?_
    simp only [Act.put, List.setIfInBounds_toArray, List.set_cons_zero, List.set_cons_succ]
    refine mix_store_fact (by rfl) _ _ rfl (w.heap.size + 1) (keepV v) (keepT v t) rfl rfl _ R2.out rfl hone ⟨(setRow_other _ _ _ _ (by omega)).trans F2.out, (setRow_other _ _ _ _ (by omega)).trans G2.out⟩ ?_
    simp only [Act.put]
    refine mix_val (.bool false) (by rfl) (fun _ _ => by rfl) ?_
    simp only [Act.put, List.setIfInBounds_toArray, List.set_cons_zero, List.set_cons_succ]
    refine mix_done ?_
    go_wp2_with fail
    refine bodyPost_ret (results_fact_tmp rfl _ _ (w.heap.size + 1) (keepV v) (keepT v t) _ rfl (setRow_heap _ _ _ _ _ _ R2.out) rfl) rfl ?_
    exact ⟨rfl, below_setRow' (Below.drew (Below.drew (B2.out))) _ _ (by omega)⟩
  rcases e2 with _ | _
  · refine wp_region_mix (fun w' => w'.heap[w.heap.size]? = some (.cells (factC v t) 40 (0, 0)) ∧ w'.heap[AG]? = some (.cells (factC (keepV v) (keepT v t)) 40 (0, 0))) [true, true, true, true, true, true, true, true, true, true, true, true, true, true, true, true, true, true, true, true, true, true, true, true, false, true] (by kernel_rfl) (by kernel_rfl) ⟨F2.out, G2.out⟩ ?_
    refine mix_load_fact (by rfl) _ rfl AG rfl (keepV v) (keepT v t) (fun _ hc => hc.2) ?_
    simp only [Act.put, List.setIfInBounds_toArray, List.set_cons_zero, List.set_cons_succ]
    refine mix_val (.pointer (some ⟨w.heap.size, 1, none⟩)) (by rfl) (fun _ _ => by go_simp) ?_
    simp only [Act.put, List.setIfInBounds_toArray, List.set_cons_zero, List.set_cons_succ]
    refine mix_load_int (by rfl) _ rfl ⟨w.heap.size, 1, none⟩ rfl (.int .i64 (v 1)) (fun _ hc => fact_cell 1 (by decide) hc.1) ?_
    simp only [Act.put, List.setIfInBounds_toArray, List.set_cons_zero, List.set_cons_succ]
    refine mix_call 64 #[.int .i64 (v 1)] (.bool true) (by rfl) (fun _ => by go_simp) H0.out ?_
    simp only [Act.put, List.setIfInBounds_toArray, List.set_cons_zero, List.set_cons_succ]
    refine mix_val (.bool true) (by rfl) (fun _ _ => by rfl) ?_
    simp only [Act.put, List.setIfInBounds_toArray, List.set_cons_zero, List.set_cons_succ]
    refine mix_val (.pointer (some ⟨w.heap.size, 3, none⟩)) (by rfl) (fun _ _ => by go_simp) ?_
    simp only [Act.put, List.setIfInBounds_toArray, List.set_cons_zero, List.set_cons_succ]
    refine mix_load_int (by rfl) _ rfl ⟨w.heap.size, 3, none⟩ rfl (.int .i64 (v 3)) (fun _ hc => fact_cell 3 (by decide) hc.1) ?_
    simp only [Act.put, List.setIfInBounds_toArray, List.set_cons_zero, List.set_cons_succ]
    refine mix_call 66 #[.int .i64 (v 3)] (.bool true) (by rfl) (fun _ => by go_simp) H1.out ?_
    simp only [Act.put, List.setIfInBounds_toArray, List.set_cons_zero, List.set_cons_succ]
    refine mix_val (.bool true) (by rfl) (fun _ _ => by rfl) ?_
    simp only [Act.put, List.setIfInBounds_toArray, List.set_cons_zero, List.set_cons_succ]
    refine mix_val (.bool true) (by rfl) (fun _ _ => by rfl) ?_
    simp only [Act.put, List.setIfInBounds_toArray, List.set_cons_zero, List.set_cons_succ]
    refine mix_val (.pointer (some ⟨w.heap.size, 8, none⟩)) (by rfl) (fun _ _ => by go_simp) ?_
    simp only [Act.put, List.setIfInBounds_toArray, List.set_cons_zero, List.set_cons_succ]
    refine mix_load_int (by rfl) _ rfl ⟨w.heap.size, 8, none⟩ rfl (.int .i64 (v 8)) (fun _ hc => fact_cell 8 (by decide) hc.1) ?_
    simp only [Act.put, List.setIfInBounds_toArray, List.set_cons_zero, List.set_cons_succ]
    refine mix_call 65 #[.int .i64 (v 8)] (.bool false) (by rfl) (fun _ => by go_simp) H2.out ?_
    simp only [Act.put, List.setIfInBounds_toArray, List.set_cons_zero, List.set_cons_succ]
    refine mix_val (.bool false) (by rfl) (fun _ _ => by rfl) ?_
    simp only [Act.put, List.setIfInBounds_toArray, List.set_cons_zero, List.set_cons_succ]
    refine mix_val (.bool false) (by rfl) (fun _ _ => by rfl) ?_
    simp only [Act.put, List.setIfInBounds_toArray, List.set_cons_zero, List.set_cons_succ]
    refine mix_off (by rfl) ?_
    simp only [Act.put, List.setIfInBounds_toArray, List.set_cons_zero, List.set_cons_succ]
    refine mix_off (by rfl) ?_
    simp only [Act.put, List.setIfInBounds_toArray, List.set_cons_zero, List.set_cons_succ]
    refine mix_off (by rfl) ?_
    simp only [Act.put, List.setIfInBounds_toArray, List.set_cons_zero, List.set_cons_succ]
    refine mix_val (.bool false) (by rfl) (fun _ _ => by rfl) ?_
    simp only [Act.put, List.setIfInBounds_toArray, List.set_cons_zero, List.set_cons_succ]
    refine mix_val (.bool false) (by rfl) (fun _ _ => by rfl) ?_
    simp only [Act.put, List.setIfInBounds_toArray, List.set_cons_zero, List.set_cons_succ]
    refine mix_off (by rfl) ?_
    simp only [Act.put, List.setIfInBounds_toArray, List.set_cons_zero, List.set_cons_succ]
    refine mix_off (by rfl) ?_
    simp only [Act.put, List.setIfInBounds_toArray, List.set_cons_zero, List.set_cons_succ]
    refine mix_off (by rfl) ?_
    simp only [Act.put, List.setIfInBounds_toArray, List.set_cons_zero, List.set_cons_succ]
    refine mix_val (.bool false) (by rfl) (fun _ _ => by rfl) ?_
    simp only [Act.put, List.setIfInBounds_toArray, List.set_cons_zero, List.set_cons_succ]
    refine mix_store_fact (by rfl) _ _ rfl (w.heap.size + 1) (keepV v) (keepT v t) rfl rfl _ R2.out rfl hone ⟨(setRow_other _ _ _ _ (by omega)).trans F2.out, (setRow_other _ _ _ _ (by omega)).trans G2.out⟩ ?_
    simp only [Act.put]
    refine mix_val (.bool false) (by rfl) (fun _ _ => by rfl) ?_
    simp only [Act.put, List.setIfInBounds_toArray, List.set_cons_zero, List.set_cons_succ]
    refine mix_done ?_
    go_wp2_with fail
    refine bodyPost_ret (results_fact_tmp rfl _ _ (w.heap.size + 1) (keepV v) (keepT v t) _ rfl (setRow_heap _ _ _ _ _ _ R2.out) rfl) rfl ?_
    exact ⟨rfl, below_setRow' (Below.drew (Below.drew (B2.out))) _ _ (by omega)⟩
  rcases e3 with _ | _
  · refine wp_region_mix (fun w' => w'.heap[w.heap.size]? = some (.cells (factC v t) 40 (0, 0)) ∧ w'.heap[AG]? = some (.cells (factC (keepV v) (keepT v t)) 40 (0, 0))) [true, true, true, true, true, true, true, true, true, true, true, true, true, true, true, true, true, true, true, true, true, true, true, true, false, true] (by kernel_rfl) (by kernel_rfl) ⟨F2.out, G2.out⟩ ?_
    refine mix_load_fact (by rfl) _ rfl AG rfl (keepV v) (keepT v t) (fun _ hc => hc.2) ?_
    simp only [Act.put, List.setIfInBounds_toArray, List.set_cons_zero, List.set_cons_succ]
    refine mix_val (.pointer (some ⟨w.heap.size, 1, none⟩)) (by rfl) (fun _ _ => by go_simp) ?_
    simp only [Act.put, List.setIfInBounds_toArray, List.set_cons_zero, List.set_cons_succ]
    refine mix_load_int (by rfl) _ rfl ⟨w.heap.size, 1, none⟩ rfl (.int .i64 (v 1)) (fun _ hc => fact_cell 1 (by decide) hc.1) ?_
    simp only [Act.put, List.setIfInBounds_toArray, List.set_cons_zero, List.set_cons_succ]
    refine mix_call 64 #[.int .i64 (v 1)] (.bool true) (by rfl) (fun _ => by go_simp) H0.out ?_
    simp only [Act.put, List.setIfInBounds_toArray, List.set_cons_zero, List.set_cons_succ]
    refine mix_val (.bool true) (by rfl) (fun _ _ => by rfl) ?_
    simp only [Act.put, List.setIfInBounds_toArray, List.set_cons_zero, List.set_cons_succ]
    refine mix_val (.pointer (some ⟨w.heap.size, 3, none⟩)) (by rfl) (fun _ _ => by go_simp) ?_
    simp only [Act.put, List.setIfInBounds_toArray, List.set_cons_zero, List.set_cons_succ]
    refine mix_load_int (by rfl) _ rfl ⟨w.heap.size, 3, none⟩ rfl (.int .i64 (v 3)) (fun _ hc => fact_cell 3 (by decide) hc.1) ?_
    simp only [Act.put, List.setIfInBounds_toArray, List.set_cons_zero, List.set_cons_succ]
    refine mix_call 66 #[.int .i64 (v 3)] (.bool true) (by rfl) (fun _ => by go_simp) H1.out ?_
    simp only [Act.put, List.setIfInBounds_toArray, List.set_cons_zero, List.set_cons_succ]
    refine mix_val (.bool true) (by rfl) (fun _ _ => by rfl) ?_
    simp only [Act.put, List.setIfInBounds_toArray, List.set_cons_zero, List.set_cons_succ]
    refine mix_val (.bool true) (by rfl) (fun _ _ => by rfl) ?_
    simp only [Act.put, List.setIfInBounds_toArray, List.set_cons_zero, List.set_cons_succ]
    refine mix_val (.pointer (some ⟨w.heap.size, 8, none⟩)) (by rfl) (fun _ _ => by go_simp) ?_
    simp only [Act.put, List.setIfInBounds_toArray, List.set_cons_zero, List.set_cons_succ]
    refine mix_load_int (by rfl) _ rfl ⟨w.heap.size, 8, none⟩ rfl (.int .i64 (v 8)) (fun _ hc => fact_cell 8 (by decide) hc.1) ?_
    simp only [Act.put, List.setIfInBounds_toArray, List.set_cons_zero, List.set_cons_succ]
    refine mix_call 65 #[.int .i64 (v 8)] (.bool true) (by rfl) (fun _ => by go_simp) H2.out ?_
    simp only [Act.put, List.setIfInBounds_toArray, List.set_cons_zero, List.set_cons_succ]
    refine mix_val (.bool true) (by rfl) (fun _ _ => by rfl) ?_
    simp only [Act.put, List.setIfInBounds_toArray, List.set_cons_zero, List.set_cons_succ]
    refine mix_val (.bool true) (by rfl) (fun _ _ => by rfl) ?_
    simp only [Act.put, List.setIfInBounds_toArray, List.set_cons_zero, List.set_cons_succ]
    refine mix_val (.pointer (some ⟨w.heap.size, 13, none⟩)) (by rfl) (fun _ _ => by go_simp) ?_
    simp only [Act.put, List.setIfInBounds_toArray, List.set_cons_zero, List.set_cons_succ]
    refine mix_load_int (by rfl) _ rfl ⟨w.heap.size, 13, none⟩ rfl (.int .i64 (v 13)) (fun _ hc => fact_cell 13 (by decide) hc.1) ?_
    simp only [Act.put, List.setIfInBounds_toArray, List.set_cons_zero, List.set_cons_succ]
    refine mix_call 49 #[.int .i64 (v 13), .int .i64 0, .int .i64 10000000000] (.bool false) (by rfl) (fun _ => by go_simp) H3.out ?_
    simp only [Act.put, List.setIfInBounds_toArray, List.set_cons_zero, List.set_cons_succ]
    refine mix_val (.bool false) (by rfl) (fun _ _ => by rfl) ?_
    simp only [Act.put, List.setIfInBounds_toArray, List.set_cons_zero, List.set_cons_succ]
    refine mix_val (.bool false) (by rfl) (fun _ _ => by rfl) ?_
    simp only [Act.put, List.setIfInBounds_toArray, List.set_cons_zero, List.set_cons_succ]
    refine mix_off (by rfl) ?_
    simp only [Act.put, List.setIfInBounds_toArray, List.set_cons_zero, List.set_cons_succ]
    refine mix_off (by rfl) ?_
    simp only [Act.put, List.setIfInBounds_toArray, List.set_cons_zero, List.set_cons_succ]
    refine mix_off (by rfl) ?_
    simp only [Act.put, List.setIfInBounds_toArray, List.set_cons_zero, List.set_cons_succ]
    refine mix_val (.bool false) (by rfl) (fun _ _ => by rfl) ?_
    simp only [Act.put, List.setIfInBounds_toArray, List.set_cons_zero, List.set_cons_succ]
    refine mix_store_fact (by rfl) _ _ rfl (w.heap.size + 1) (keepV v) (keepT v t) rfl rfl _ R2.out rfl hone ⟨(setRow_other _ _ _ _ (by omega)).trans F2.out, (setRow_other _ _ _ _ (by omega)).trans G2.out⟩ ?_
    simp only [Act.put]
    refine mix_val (.bool false) (by rfl) (fun _ _ => by rfl) ?_
    simp only [Act.put, List.setIfInBounds_toArray, List.set_cons_zero, List.set_cons_succ]
    refine mix_done ?_
    go_wp2_with fail
    refine bodyPost_ret (results_fact_tmp rfl _ _ (w.heap.size + 1) (keepV v) (keepT v t) _ rfl (setRow_heap _ _ _ _ _ _ R2.out) rfl) rfl ?_
    exact ⟨rfl, below_setRow' (Below.drew (Below.drew (B2.out))) _ _ (by omega)⟩
  rcases e4 with _ | _
  · refine wp_region_mix (fun w' => w'.heap[w.heap.size]? = some (.cells (factC v t) 40 (0, 0)) ∧ w'.heap[AG]? = some (.cells (factC (keepV v) (keepT v t)) 40 (0, 0))) [true, true, true, true, true, true, true, true, true, true, true, true, true, true, true, true, true, true, true, true, true, true, true, true, false, true] (by kernel_rfl) (by kernel_rfl) ⟨F2.out, G2.out⟩ ?_
    refine mix_load_fact (by rfl) _ rfl AG rfl (keepV v) (keepT v t) (fun _ hc => hc.2) ?_
    simp only [Act.put, List.setIfInBounds_toArray, List.set_cons_zero, List.set_cons_succ]
    refine mix_val (.pointer (some ⟨w.heap.size, 1, none⟩)) (by rfl) (fun _ _ => by go_simp) ?_
    simp only [Act.put, List.setIfInBounds_toArray, List.set_cons_zero, List.set_cons_succ]
    refine mix_load_int (by rfl) _ rfl ⟨w.heap.size, 1, none⟩ rfl (.int .i64 (v 1)) (fun _ hc => fact_cell 1 (by decide) hc.1) ?_
    simp only [Act.put, List.setIfInBounds_toArray, List.set_cons_zero, List.set_cons_succ]
    refine mix_call 64 #[.int .i64 (v 1)] (.bool true) (by rfl) (fun _ => by go_simp) H0.out ?_
    simp only [Act.put, List.setIfInBounds_toArray, List.set_cons_zero, List.set_cons_succ]
    refine mix_val (.bool true) (by rfl) (fun _ _ => by rfl) ?_
    simp only [Act.put, List.setIfInBounds_toArray, List.set_cons_zero, List.set_cons_succ]
    refine mix_val (.pointer (some ⟨w.heap.size, 3, none⟩)) (by rfl) (fun _ _ => by go_simp) ?_
    simp only [Act.put, List.setIfInBounds_toArray, List.set_cons_zero, List.set_cons_succ]
    refine mix_load_int (by rfl) _ rfl ⟨w.heap.size, 3, none⟩ rfl (.int .i64 (v 3)) (fun _ hc => fact_cell 3 (by decide) hc.1) ?_
    simp only [Act.put, List.setIfInBounds_toArray, List.set_cons_zero, List.set_cons_succ]
    refine mix_call 66 #[.int .i64 (v 3)] (.bool true) (by rfl) (fun _ => by go_simp) H1.out ?_
    simp only [Act.put, List.setIfInBounds_toArray, List.set_cons_zero, List.set_cons_succ]
    refine mix_val (.bool true) (by rfl) (fun _ _ => by rfl) ?_
    simp only [Act.put, List.setIfInBounds_toArray, List.set_cons_zero, List.set_cons_succ]
    refine mix_val (.bool true) (by rfl) (fun _ _ => by rfl) ?_
    simp only [Act.put, List.setIfInBounds_toArray, List.set_cons_zero, List.set_cons_succ]
    refine mix_val (.pointer (some ⟨w.heap.size, 8, none⟩)) (by rfl) (fun _ _ => by go_simp) ?_
    simp only [Act.put, List.setIfInBounds_toArray, List.set_cons_zero, List.set_cons_succ]
    refine mix_load_int (by rfl) _ rfl ⟨w.heap.size, 8, none⟩ rfl (.int .i64 (v 8)) (fun _ hc => fact_cell 8 (by decide) hc.1) ?_
    simp only [Act.put, List.setIfInBounds_toArray, List.set_cons_zero, List.set_cons_succ]
    refine mix_call 65 #[.int .i64 (v 8)] (.bool true) (by rfl) (fun _ => by go_simp) H2.out ?_
    simp only [Act.put, List.setIfInBounds_toArray, List.set_cons_zero, List.set_cons_succ]
    refine mix_val (.bool true) (by rfl) (fun _ _ => by rfl) ?_
    simp only [Act.put, List.setIfInBounds_toArray, List.set_cons_zero, List.set_cons_succ]
    refine mix_val (.bool true) (by rfl) (fun _ _ => by rfl) ?_
    simp only [Act.put, List.setIfInBounds_toArray, List.set_cons_zero, List.set_cons_succ]
    refine mix_val (.pointer (some ⟨w.heap.size, 13, none⟩)) (by rfl) (fun _ _ => by go_simp) ?_
    simp only [Act.put, List.setIfInBounds_toArray, List.set_cons_zero, List.set_cons_succ]
    refine mix_load_int (by rfl) _ rfl ⟨w.heap.size, 13, none⟩ rfl (.int .i64 (v 13)) (fun _ hc => fact_cell 13 (by decide) hc.1) ?_
    simp only [Act.put, List.setIfInBounds_toArray, List.set_cons_zero, List.set_cons_succ]
    refine mix_call 49 #[.int .i64 (v 13), .int .i64 0, .int .i64 10000000000] (.bool true) (by rfl) (fun _ => by go_simp) H3.out ?_
    simp only [Act.put, List.setIfInBounds_toArray, List.set_cons_zero, List.set_cons_succ]
    refine mix_val (.bool true) (by rfl) (fun _ _ => by rfl) ?_
    simp only [Act.put, List.setIfInBounds_toArray, List.set_cons_zero, List.set_cons_succ]
    refine mix_val (.bool true) (by rfl) (fun _ _ => by rfl) ?_
    simp only [Act.put, List.setIfInBounds_toArray, List.set_cons_zero, List.set_cons_succ]
    refine mix_val (.pointer (some ⟨w.heap.size, 15, none⟩)) (by rfl) (fun _ _ => by go_simp) ?_
    simp only [Act.put, List.setIfInBounds_toArray, List.set_cons_zero, List.set_cons_succ]
    refine mix_load_int (by rfl) _ rfl ⟨w.heap.size, 15, none⟩ rfl (.int .i64 (v 15)) (fun _ hc => fact_cell 15 (by decide) hc.1) ?_
    simp only [Act.put, List.setIfInBounds_toArray, List.set_cons_zero, List.set_cons_succ]
    refine mix_call 49 #[.int .i64 (v 15), .int .i64 0, .int .i64 20] (.bool false) (by rfl) (fun _ => by go_simp) H4.out ?_
    simp only [Act.put, List.setIfInBounds_toArray, List.set_cons_zero, List.set_cons_succ]
    refine mix_val (.bool false) (by rfl) (fun _ _ => by rfl) ?_
    simp only [Act.put, List.setIfInBounds_toArray, List.set_cons_zero, List.set_cons_succ]
    refine mix_store_fact (by rfl) _ _ rfl (w.heap.size + 1) (keepV v) (keepT v t) rfl rfl _ R2.out rfl hone ⟨(setRow_other _ _ _ _ (by omega)).trans F2.out, (setRow_other _ _ _ _ (by omega)).trans G2.out⟩ ?_
    simp only [Act.put]
    refine mix_val (.bool false) (by rfl) (fun _ _ => by rfl) ?_
    simp only [Act.put, List.setIfInBounds_toArray, List.set_cons_zero, List.set_cons_succ]
    refine mix_done ?_
    go_wp2_with fail
    refine bodyPost_ret (results_fact_tmp rfl _ _ (w.heap.size + 1) (keepV v) (keepT v t) _ rfl (setRow_heap _ _ _ _ _ _ R2.out) rfl) rfl ?_
    exact ⟨rfl, below_setRow' (Below.drew (Below.drew (B2.out))) _ _ (by omega)⟩
  refine wp_region_mix (fun w' => w'.heap[w.heap.size]? = some (.cells (factC v t) 40 (0, 0)) ∧ w'.heap[AG]? = some (.cells (factC (keepV v) (keepT v t)) 40 (0, 0))) [true, true, true, true, true, true, true, true, true, true, true, true, true, true, true, true, true, true, true, true, true, true, true, true, false, true] (by kernel_rfl) (by kernel_rfl) ⟨F2.out, G2.out⟩ ?_
  refine mix_load_fact (by rfl) _ rfl AG rfl (keepV v) (keepT v t) (fun _ hc => hc.2) ?_
  simp only [Act.put, List.setIfInBounds_toArray, List.set_cons_zero, List.set_cons_succ]
  refine mix_val (.pointer (some ⟨w.heap.size, 1, none⟩)) (by rfl) (fun _ _ => by go_simp) ?_
  simp only [Act.put, List.setIfInBounds_toArray, List.set_cons_zero, List.set_cons_succ]
  refine mix_load_int (by rfl) _ rfl ⟨w.heap.size, 1, none⟩ rfl (.int .i64 (v 1)) (fun _ hc => fact_cell 1 (by decide) hc.1) ?_
  simp only [Act.put, List.setIfInBounds_toArray, List.set_cons_zero, List.set_cons_succ]
  refine mix_call 64 #[.int .i64 (v 1)] (.bool true) (by rfl) (fun _ => by go_simp) H0.out ?_
  simp only [Act.put, List.setIfInBounds_toArray, List.set_cons_zero, List.set_cons_succ]
  refine mix_val (.bool true) (by rfl) (fun _ _ => by rfl) ?_
  simp only [Act.put, List.setIfInBounds_toArray, List.set_cons_zero, List.set_cons_succ]
  refine mix_val (.pointer (some ⟨w.heap.size, 3, none⟩)) (by rfl) (fun _ _ => by go_simp) ?_
  simp only [Act.put, List.setIfInBounds_toArray, List.set_cons_zero, List.set_cons_succ]
  refine mix_load_int (by rfl) _ rfl ⟨w.heap.size, 3, none⟩ rfl (.int .i64 (v 3)) (fun _ hc => fact_cell 3 (by decide) hc.1) ?_
  simp only [Act.put, List.setIfInBounds_toArray, List.set_cons_zero, List.set_cons_succ]
  refine mix_call 66 #[.int .i64 (v 3)] (.bool true) (by rfl) (fun _ => by go_simp) H1.out ?_
  simp only [Act.put, List.setIfInBounds_toArray, List.set_cons_zero, List.set_cons_succ]
  refine mix_val (.bool true) (by rfl) (fun _ _ => by rfl) ?_
  simp only [Act.put, List.setIfInBounds_toArray, List.set_cons_zero, List.set_cons_succ]
  refine mix_val (.bool true) (by rfl) (fun _ _ => by rfl) ?_
  simp only [Act.put, List.setIfInBounds_toArray, List.set_cons_zero, List.set_cons_succ]
  refine mix_val (.pointer (some ⟨w.heap.size, 8, none⟩)) (by rfl) (fun _ _ => by go_simp) ?_
  simp only [Act.put, List.setIfInBounds_toArray, List.set_cons_zero, List.set_cons_succ]
  refine mix_load_int (by rfl) _ rfl ⟨w.heap.size, 8, none⟩ rfl (.int .i64 (v 8)) (fun _ hc => fact_cell 8 (by decide) hc.1) ?_
  simp only [Act.put, List.setIfInBounds_toArray, List.set_cons_zero, List.set_cons_succ]
  refine mix_call 65 #[.int .i64 (v 8)] (.bool true) (by rfl) (fun _ => by go_simp) H2.out ?_
  simp only [Act.put, List.setIfInBounds_toArray, List.set_cons_zero, List.set_cons_succ]
  refine mix_val (.bool true) (by rfl) (fun _ _ => by rfl) ?_
  simp only [Act.put, List.setIfInBounds_toArray, List.set_cons_zero, List.set_cons_succ]
  refine mix_val (.bool true) (by rfl) (fun _ _ => by rfl) ?_
  simp only [Act.put, List.setIfInBounds_toArray, List.set_cons_zero, List.set_cons_succ]
  refine mix_val (.pointer (some ⟨w.heap.size, 13, none⟩)) (by rfl) (fun _ _ => by go_simp) ?_
  simp only [Act.put, List.setIfInBounds_toArray, List.set_cons_zero, List.set_cons_succ]
  refine mix_load_int (by rfl) _ rfl ⟨w.heap.size, 13, none⟩ rfl (.int .i64 (v 13)) (fun _ hc => fact_cell 13 (by decide) hc.1) ?_
  simp only [Act.put, List.setIfInBounds_toArray, List.set_cons_zero, List.set_cons_succ]
  refine mix_call 49 #[.int .i64 (v 13), .int .i64 0, .int .i64 10000000000] (.bool true) (by rfl) (fun _ => by go_simp) H3.out ?_
  simp only [Act.put, List.setIfInBounds_toArray, List.set_cons_zero, List.set_cons_succ]
  refine mix_val (.bool true) (by rfl) (fun _ _ => by rfl) ?_
  simp only [Act.put, List.setIfInBounds_toArray, List.set_cons_zero, List.set_cons_succ]
  refine mix_val (.bool true) (by rfl) (fun _ _ => by rfl) ?_
  simp only [Act.put, List.setIfInBounds_toArray, List.set_cons_zero, List.set_cons_succ]
  refine mix_val (.pointer (some ⟨w.heap.size, 15, none⟩)) (by rfl) (fun _ _ => by go_simp) ?_
  simp only [Act.put, List.setIfInBounds_toArray, List.set_cons_zero, List.set_cons_succ]
  refine mix_load_int (by rfl) _ rfl ⟨w.heap.size, 15, none⟩ rfl (.int .i64 (v 15)) (fun _ hc => fact_cell 15 (by decide) hc.1) ?_
  simp only [Act.put, List.setIfInBounds_toArray, List.set_cons_zero, List.set_cons_succ]
  refine mix_call 49 #[.int .i64 (v 15), .int .i64 0, .int .i64 20] (.bool true) (by rfl) (fun _ => by go_simp) H4.out ?_
  simp only [Act.put, List.setIfInBounds_toArray, List.set_cons_zero, List.set_cons_succ]
  refine mix_val (.bool true) (by rfl) (fun _ _ => by rfl) ?_
  simp only [Act.put, List.setIfInBounds_toArray, List.set_cons_zero, List.set_cons_succ]
  refine mix_store_fact (by rfl) _ _ rfl (w.heap.size + 1) (keepV v) (keepT v t) rfl rfl _ R2.out rfl hone ⟨(setRow_other _ _ _ _ (by omega)).trans F2.out, (setRow_other _ _ _ _ (by omega)).trans G2.out⟩ ?_
  simp only [Act.put]
  refine mix_val (.bool true) (by rfl) (fun _ _ => by rfl) ?_
  simp only [Act.put, List.setIfInBounds_toArray, List.set_cons_zero, List.set_cons_succ]
  refine mix_done ?_
  go_wp2_with fail
  refine bodyPost_ret (results_fact_tmp rfl _ _ (w.heap.size + 1) (keepV v) (keepT v t) _ rfl (setRow_heap _ _ _ _ _ _ R2.out) rfl) rfl ?_
  exact ⟨rfl, below_setRow' (Below.drew (Below.drew (B2.out))) _ _ (by omega)⟩

end Go.Proofs.YtnndnjnpkjpkpaaGreatDoor
