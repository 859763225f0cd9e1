/- The reference implementation's fields and rest, for kinds 3: the fact with the fields of its kind alone, and whether they are as they must be. No further condition. -/
import Derived.Test.YtnndnjnpkjpkpaaGreatDoorRfA
import Derived.Test.YtnndnjnpkjpkpaaGreatDoorMix
import Derived.Deep.RegionHeld3
namespace Go.Proofs.YtnndnjnpkjpkpaaGreatDoor
open Go.RowKit

set_option maxRecDepth 100000 in
set_option maxHeartbeats 8000000 in
theorem fields_3 (v : Nat → Int) (t : ByteArray) (w : World) (hk : v 0 = 3) :
    Calls Tryz.prog 48 #[.agg (factC v t)] w fun e W' => e = .returned (.tuple #[.agg (factC (keepV v) (keepT v t)), .bool (inB (v 1) 1 1000000 && inB (v 7) 1 1000000 && inB (v 9) 1 1000000 && inB (v 10) 1 2 && inB (v 8) 1 255 && decide (0 ≤ v 11) && decide (v 11 < v 12) && decide (v 12 ≤ 1200) && inB (v 14) 0 1000000)]) ∧ Below w.heap.size w W' := by
  have H0 := Lib.hid (fun W => id_calls (v 1) W)
  generalize inB (v 1) 1 1000000 = e0 at *
  have H1 := Lib.hid (fun W => id_calls (v 7) W)
  generalize inB (v 7) 1 1000000 = e1 at *
  have H2 := Lib.hid (fun W => id_calls (v 9) W)
  generalize inB (v 9) 1 1000000 = e2 at *
  have H3 := Lib.hid (fun W => within_calls (v 10) 1 2 W)
  generalize inB (v 10) 1 2 = e3 at *
  have H4 := Lib.hid (fun W => within_calls (v 8) 1 255 W)
  generalize inB (v 8) 1 255 = e4 at *
  generalize he5 : decide (0 ≤ v 11) = e5 at *
  generalize he6 : decide (v 11 < v 12) = e6 at *
  generalize he7 : decide (v 12 ≤ 1200) = e7 at *
  have H8 := Lib.hid (fun W => within_calls (v 14) 0 1000000 W)
  generalize inB (v 14) 0 1000000 = e8 at *
  go_enter Tryz.func48, Tryz.ntmps48
  go_upto_region 1 with (fail)
  obtain ⟨W0, hW0, f0, r0, b0⟩ := two_rows w (factC v t) (factC zeroV ⟨#[]⟩) 40 40
  rw [hW0]
  clear hW0
  have F0 := Lib.hid f0
  have R0 := Lib.hid r0
  have B0 := Lib.hid b0
  clear f0 r0 b0
  obtain ⟨c0, -, c2, -⟩ := row18 F0.out
  rw [hk] at c0
  have honeG := factC_one (baseK 3 (v 2)) ⟨#[]⟩
  go_upto_region 2 with (first
      | (refine wpList_store_row rfl 40 _ _ rfl W0.heap.size (factC (baseK 3 (v 2)) ⟨#[]⟩) rfl rfl 40 _ (heap_new W0 _) (hiC _ _) rfl honeG ?_)
      | (refine wpList_load_fact rfl _ rfl w.heap.size rfl v t F0.out ?_)
      | (refine wpList_load_fact rfl _ rfl (w.heap.size + 1) rfl zeroV ⟨#[]⟩ R0.out ?_))
  have hltFG : w.heap.size < W0.heap.size := (Array.getElem?_eq_some_iff.1 F0.out).1
  have hltRG : (w.heap.size + 1) < W0.heap.size := (Array.getElem?_eq_some_iff.1 R0.out).1
  have hBG : w.heap.size ≤ W0.heap.size := B0.out.size
  obtain ⟨W1, hW1, F1, R1, G1, B1, hs1⟩ : ∃ W1, (W0.alloc (.cells (factC zeroV ⟨#[]⟩) 40)).setRow W0.heap.size (factC (baseK 3 (v 2)) ⟨#[]⟩) = W1 ∧ Hid (W1.heap[w.heap.size]? = some (.cells (factC v t) 40 (0, 0))) ∧ Hid (W1.heap[(w.heap.size + 1)]? = some (.cells (factC zeroV ⟨#[]⟩) 40 (0, 0))) ∧ Hid (W1.heap[W0.heap.size]? = some (.cells (factC (baseK 3 (v 2)) ⟨#[]⟩) 40 (0, 0))) ∧ Hid (Below w.heap.size w W1) ∧ Hid (W0.heap.size < W1.heap.size) :=
    ⟨_, rfl, Lib.hid ((setRow_other _ _ _ _ (Nat.ne_of_lt (Array.getElem?_eq_some_iff.1 F0.out).1)).trans (row_aft _ _ _ _ F0.out)), Lib.hid ((setRow_other _ _ _ _ (Nat.ne_of_lt (Array.getElem?_eq_some_iff.1 R0.out).1)).trans (row_aft _ _ _ _ R0.out)), Lib.hid (setRow_heap _ _ _ _ _ _ (heap_new W0 _)), Lib.hid (below_setRow' (B0.out.alloc B0.out.size _) _ _ B0.out.size), Lib.hid (by simp)⟩
  rw [hW1]
  clear hW1 F0 R0 B0
  have hleG := hBG
  clear hBG
  generalize W0.heap.size = AG at *
  clear c0 c2
  obtain ⟨c0, -⟩ := row18 F1.out
  rw [hk] at c0
  go_upto_region 11 with (first
      | (refine wpList_load_fact rfl _ rfl w.heap.size rfl v t F1.out ?_)
      | (refine wpList_load_fact rfl _ rfl (w.heap.size + 1) rfl zeroV ⟨#[]⟩ R1.out ?_)
      | (refine wpList_load_fact rfl _ rfl AG rfl (baseK 3 (v 2)) ⟨#[]⟩ G1.out ?_))
  clear c0
  obtain ⟨-, d1, -, -, -, -, -, d7, -, d9, d10, -⟩ := row18 F1.out
  obtain ⟨-, c1, -, -, -, -, -, c7, -, c9, c10, -⟩ := row18 G1.out
  have z1 : W1.frozen? ⟨AG, 1, none⟩ = false := frozen_of_row _ _ _ _ _ G1.out
  have z7 : W1.frozen? ⟨AG, 7, none⟩ = false := frozen_of_row _ _ _ _ _ G1.out
  have z9 : W1.frozen? ⟨AG, 9, none⟩ = false := frozen_of_row _ _ _ _ _ G1.out
  have z10 : W1.frozen? ⟨AG, 10, none⟩ = false := frozen_of_row _ _ _ _ _ G1.out
  have ne1 : ¬ AG = w.heap.size := by omega
  have ne2 : ¬ w.heap.size = AG := by omega
  go_region_held3 (fun w' => w'.cell? ⟨w.heap.size, 1, none⟩ = some (.int .i64 (v 1)) ∧ w'.cell? ⟨w.heap.size, 7, none⟩ = some (.int .i64 (v 7)) ∧ w'.cell? ⟨w.heap.size, 9, none⟩ = some (.int .i64 (v 9)) ∧ w'.cell? ⟨w.heap.size, 10, none⟩ = some (.int .i64 (v 10))) (go_keep) (fail)
  go_upto_region 12 with (first
      | (refine wpList_load_fact rfl _ rfl w.heap.size rfl v t F1.out ?_)
      | (refine wpList_load_fact rfl _ rfl (w.heap.size + 1) rfl zeroV ⟨#[]⟩ R1.out ?_)
      | (refine wpList_load_fact rfl _ rfl AG rfl (baseK 3 (v 2)) ⟨#[]⟩ G1.out ?_))
  obtain ⟨W2, hW2, F2, G2, R2, B2⟩ : ∃ W2, ((((W1.setCell ⟨AG, 1, none⟩ (.int .i64 (v 1))).setCell ⟨AG, 7, none⟩ (.int .i64 (v 7))).setCell ⟨AG, 9, none⟩ (.int .i64 (v 9))).setCell ⟨AG, 10, none⟩ (.int .i64 (v 10))) = W2 ∧ Hid (W2.heap[w.heap.size]? = some (.cells (factC v t) 40 (0, 0))) ∧ Hid (W2.heap[AG]? = some (.cells (factC (setF (setF (setF (setF (baseK 3 (v 2)) 1 (v 1)) 7 (v 7)) 9 (v 9)) 10 (v 10)) ⟨#[]⟩) 40 (0, 0))) ∧ Hid (W2.heap[(w.heap.size + 1)]? = some (.cells (factC zeroV ⟨#[]⟩) 40 (0, 0))) ∧ Hid (Below w.heap.size w W2) :=
    ⟨_, rfl, Lib.hid (other_cell 10 _ (by omega) (other_cell 9 _ (by omega) (other_cell 7 _ (by omega) (other_cell 1 _ (by omega) F1.out)))), Lib.hid (setF_cell 10 (v 10) (by omega) (setF_cell 9 (v 9) (by omega) (setF_cell 7 (v 7) (by omega) (setF_cell 1 (v 1) (by omega) G1.out)))), Lib.hid (other_cell 10 _ (by omega) (other_cell 9 _ (by omega) (other_cell 7 _ (by omega) (other_cell 1 _ (by omega) R1.out)))), Lib.hid ((((B1.out.setCell (p := ⟨AG, 1, none⟩) (show w.heap.size ≤ AG by omega) _).setCell (p := ⟨AG, 7, none⟩) (show w.heap.size ≤ AG by omega) _).setCell (p := ⟨AG, 9, none⟩) (show w.heap.size ≤ AG by omega) _).setCell (p := ⟨AG, 10, none⟩) (show w.heap.size ≤ AG by omega) _)⟩
  rw [hW2]
  clear hW2 F1 R1 G1 B1
  clear c1 z1 d1 c7 z7 d7 c9 z9 d9 c10 z10 d10
  obtain ⟨-, -, -, -, -, -, -, -, d8, -, -, d11, d12, -, d14, -⟩ := row18 F2.out
  obtain ⟨-, -, -, -, -, -, -, -, c8, -, -, c11, c12, -, c14, -⟩ := row18 G2.out
  have z8 : W2.frozen? ⟨AG, 8, none⟩ = false := frozen_of_row _ _ _ _ _ G2.out
  have z11 : W2.frozen? ⟨AG, 11, none⟩ = false := frozen_of_row _ _ _ _ _ G2.out
  have z12 : W2.frozen? ⟨AG, 12, none⟩ = false := frozen_of_row _ _ _ _ _ G2.out
  have z14 : W2.frozen? ⟨AG, 14, none⟩ = false := frozen_of_row _ _ _ _ _ G2.out
  have ne1 : ¬ AG = w.heap.size := by omega
  have ne2 : ¬ w.heap.size = AG := by omega
  go_region_held3 (fun w' => w'.cell? ⟨w.heap.size, 8, none⟩ = some (.int .i64 (v 8)) ∧ w'.cell? ⟨w.heap.size, 11, none⟩ = some (.int .i64 (v 11)) ∧ w'.cell? ⟨w.heap.size, 12, none⟩ = some (.int .i64 (v 12)) ∧ w'.cell? ⟨w.heap.size, 14, none⟩ = some (.int .i64 (v 14))) (go_keep) (fail)
  go_upto_region 13 with (first
      | (refine wpList_load_fact rfl _ rfl w.heap.size rfl v t F2.out ?_)
      | (refine wpList_load_fact rfl _ rfl (w.heap.size + 1) rfl zeroV ⟨#[]⟩ R2.out ?_)
      | (refine wpList_load_fact rfl _ rfl AG rfl (setF (setF (setF (setF (baseK 3 (v 2)) 1 (v 1)) 7 (v 7)) 9 (v 9)) 10 (v 10)) ⟨#[]⟩ G2.out ?_))
  obtain ⟨W3, hW3, F3, G3, R3, B3⟩ : ∃ W3, ((((W2.setCell ⟨AG, 8, none⟩ (.int .i64 (v 8))).setCell ⟨AG, 11, none⟩ (.int .i64 (v 11))).setCell ⟨AG, 12, none⟩ (.int .i64 (v 12))).setCell ⟨AG, 14, none⟩ (.int .i64 (v 14))) = W3 ∧ Hid (W3.heap[w.heap.size]? = some (.cells (factC v t) 40 (0, 0))) ∧ Hid (W3.heap[AG]? = some (.cells (factC (setF (setF (setF (setF (setF (setF (setF (setF (baseK 3 (v 2)) 1 (v 1)) 7 (v 7)) 9 (v 9)) 10 (v 10)) 8 (v 8)) 11 (v 11)) 12 (v 12)) 14 (v 14)) ⟨#[]⟩) 40 (0, 0))) ∧ Hid (W3.heap[(w.heap.size + 1)]? = some (.cells (factC zeroV ⟨#[]⟩) 40 (0, 0))) ∧ Hid (Below w.heap.size w W3) :=
    ⟨_, rfl, Lib.hid (other_cell 14 _ (by omega) (other_cell 12 _ (by omega) (other_cell 11 _ (by omega) (other_cell 8 _ (by omega) F2.out)))), Lib.hid (setF_cell 14 (v 14) (by omega) (setF_cell 12 (v 12) (by omega) (setF_cell 11 (v 11) (by omega) (setF_cell 8 (v 8) (by omega) G2.out)))), Lib.hid (other_cell 14 _ (by omega) (other_cell 12 _ (by omega) (other_cell 11 _ (by omega) (other_cell 8 _ (by omega) R2.out)))), Lib.hid ((((B2.out.setCell (p := ⟨AG, 8, none⟩) (show w.heap.size ≤ AG by omega) _).setCell (p := ⟨AG, 11, none⟩) (show w.heap.size ≤ AG by omega) _).setCell (p := ⟨AG, 12, none⟩) (show w.heap.size ≤ AG by omega) _).setCell (p := ⟨AG, 14, none⟩) (show w.heap.size ≤ AG by omega) _)⟩
  rw [hW3]
  clear hW3 F2 R2 G2 B2
  clear c8 z8 d8 c11 z11 d11 c12 z12 d12 c14 z14 d14
  have hkeep := keep_3 v t hk
  rw [hkeep] at G3
  clear hkeep hk
  have hone := factC_one (keepV v) (keepT v t)
  rcases e0 with _ | _
  · refine wp_region_mix (fun w' => w'.heap[w.heap.size]? = some (.cells (factC v t) 40 (0, 0)) ∧ w'.heap[AG]? = some (.cells (factC (keepV v) (keepT v t)) 40 (0, 0))) [true, true, true, true, true, true, true, true, true, true, true, true, true, true, true, true, true, true, true, true, true, true, true, true, true, true, true, true, true, true, true, true, true, true, true, true, true, true, true, true, true, true, true, true, true, true, false, true] (by kernel_rfl) (by kernel_rfl) ⟨F3.out, G3.out⟩ ?_
    refine mix_load_fact (by rfl) _ rfl AG rfl (keepV v) (keepT v t) (fun _ hc => hc.2) ?_
    simp only [Act.put, List.setIfInBounds_toArray, List.set_cons_zero, List.set_cons_succ]
    refine mix_val (.pointer (some ⟨w.heap.size, 1, none⟩)) (by rfl) (fun _ _ => by go_simp) ?_
    simp only [Act.put, List.setIfInBounds_toArray, List.set_cons_zero, List.set_cons_succ]
    refine mix_load_int (by rfl) _ rfl ⟨w.heap.size, 1, none⟩ rfl (.int .i64 (v 1)) (fun _ hc => fact_cell 1 (by decide) hc.1) ?_
    simp only [Act.put, List.setIfInBounds_toArray, List.set_cons_zero, List.set_cons_succ]
    refine mix_call 64 #[.int .i64 (v 1)] (.bool false) (by rfl) (fun _ => by go_simp) H0.out ?_
    simp only [Act.put, List.setIfInBounds_toArray, List.set_cons_zero, List.set_cons_succ]
    refine mix_val (.bool false) (by rfl) (fun _ _ => by rfl) ?_
    simp only [Act.put, List.setIfInBounds_toArray, List.set_cons_zero, List.set_cons_succ]
    refine mix_off (by rfl) ?_
    simp only [Act.put, List.setIfInBounds_toArray, List.set_cons_zero, List.set_cons_succ]
    refine mix_off (by rfl) ?_
    simp only [Act.put, List.setIfInBounds_toArray, List.set_cons_zero, List.set_cons_succ]
    refine mix_off (by rfl) ?_
    simp only [Act.put, List.setIfInBounds_toArray, List.set_cons_zero, List.set_cons_succ]
    refine mix_val (.bool false) (by rfl) (fun _ _ => by rfl) ?_
    simp only [Act.put, List.setIfInBounds_toArray, List.set_cons_zero, List.set_cons_succ]
    refine mix_val (.bool false) (by rfl) (fun _ _ => by rfl) ?_
    simp only [Act.put, List.setIfInBounds_toArray, List.set_cons_zero, List.set_cons_succ]
    refine mix_off (by rfl) ?_
    simp only [Act.put, List.setIfInBounds_toArray, List.set_cons_zero, List.set_cons_succ]
    refine mix_off (by rfl) ?_
    simp only [Act.put, List.setIfInBounds_toArray, List.set_cons_zero, List.set_cons_succ]
    refine mix_off (by rfl) ?_
    simp only [Act.put, List.setIfInBounds_toArray, List.set_cons_zero, List.set_cons_succ]
    refine mix_val (.bool false) (by rfl) (fun _ _ => by rfl) ?_
    simp only [Act.put, List.setIfInBounds_toArray, List.set_cons_zero, List.set_cons_succ]
    refine mix_val (.bool false) (by rfl) (fun _ _ => by rfl) ?_
    simp only [Act.put, List.setIfInBounds_toArray, List.set_cons_zero, List.set_cons_succ]
    refine mix_off (by rfl) ?_
    simp only [Act.put, List.setIfInBounds_toArray, List.set_cons_zero, List.set_cons_succ]
    refine mix_off (by rfl) ?_
    simp only [Act.put, List.setIfInBounds_toArray, List.set_cons_zero, List.set_cons_succ]
    refine mix_off (by rfl) ?_
    simp only [Act.put, List.setIfInBounds_toArray, List.set_cons_zero, List.set_cons_succ]
    refine mix_val (.bool false) (by rfl) (fun _ _ => by rfl) ?_
    simp only [Act.put, List.setIfInBounds_toArray, List.set_cons_zero, List.set_cons_succ]
    refine mix_val (.bool false) (by rfl) (fun _ _ => by rfl) ?_
    simp only [Act.put, List.setIfInBounds_toArray, List.set_cons_zero, List.set_cons_succ]
    refine mix_off (by rfl) ?_
    simp only [Act.put, List.setIfInBounds_toArray, List.set_cons_zero, List.set_cons_succ]
    refine mix_off (by rfl) ?_
    simp only [Act.put, List.setIfInBounds_toArray, List.set_cons_zero, List.set_cons_succ]
    refine mix_off (by rfl) ?_
    simp only [Act.put, List.setIfInBounds_toArray, List.set_cons_zero, List.set_cons_succ]
    refine mix_val (.bool false) (by rfl) (fun _ _ => by rfl) ?_
    simp only [Act.put, List.setIfInBounds_toArray, List.set_cons_zero, List.set_cons_succ]
    refine mix_val (.bool false) (by rfl) (fun _ _ => by rfl) ?_
    simp only [Act.put, List.setIfInBounds_toArray, List.set_cons_zero, List.set_cons_succ]
    refine mix_off (by rfl) ?_
    simp only [Act.put, List.setIfInBounds_toArray, List.set_cons_zero, List.set_cons_succ]
    refine mix_off (by rfl) ?_
    simp only [Act.put, List.setIfInBounds_toArray, List.set_cons_zero, List.set_cons_succ]
    refine mix_off (by rfl) ?_
    simp only [Act.put, List.setIfInBounds_toArray, List.set_cons_zero, List.set_cons_succ]
    refine mix_val (.bool false) (by rfl) (fun _ _ => by rfl) ?_
    simp only [Act.put, List.setIfInBounds_toArray, List.set_cons_zero, List.set_cons_succ]
    refine mix_val (.bool false) (by rfl) (fun _ _ => by rfl) ?_
    simp only [Act.put, List.setIfInBounds_toArray, List.set_cons_zero, List.set_cons_succ]
    refine mix_off (by rfl) ?_
    simp only [Act.put, List.setIfInBounds_toArray, List.set_cons_zero, List.set_cons_succ]
    refine mix_off (by rfl) ?_
    simp only [Act.put, List.setIfInBounds_toArray, List.set_cons_zero, List.set_cons_succ]
    refine mix_off (by rfl) ?_
    simp only [Act.put, List.setIfInBounds_toArray, List.set_cons_zero, List.set_cons_succ]
    refine mix_off (by rfl) ?_
    simp only [Act.put, List.setIfInBounds_toArray, List.set_cons_zero, List.set_cons_succ]
    refine mix_off (by rfl) ?_
    simp only [Act.put, List.setIfInBounds_toArray, List.set_cons_zero, List.set_cons_succ]
    refine mix_val (.bool false) (by rfl) (fun _ _ => by rfl) ?_
    simp only [Act.put, List.setIfInBounds_toArray, List.set_cons_zero, List.set_cons_succ]
    refine mix_val (.bool false) (by rfl) (fun _ _ => by rfl) ?_
    simp only [Act.put, List.setIfInBounds_toArray, List.set_cons_zero, List.set_cons_succ]
    refine mix_off (by rfl) ?_
    simp only [Act.put, List.setIfInBounds_toArray, List.set_cons_zero, List.set_cons_succ]
    refine mix_off (by rfl) ?_
    simp only [Act.put, List.setIfInBounds_toArray, List.set_cons_zero, List.set_cons_succ]
    refine mix_off (by rfl) ?_
    simp only [Act.put, List.setIfInBounds_toArray, List.set_cons_zero, List.set_cons_succ]
    refine mix_val (.bool false) (by rfl) (fun _ _ => by rfl) ?_
    simp only [Act.put, List.setIfInBounds_toArray, List.set_cons_zero, List.set_cons_succ]
    refine mix_val (.bool false) (by rfl) (fun _ _ => by rfl) ?_
    simp only [Act.put, List.setIfInBounds_toArray, List.set_cons_zero, List.set_cons_succ]
    refine mix_off (by rfl) ?_
    simp only [Act.put, List.setIfInBounds_toArray, List.set_cons_zero, List.set_cons_succ]
    refine mix_off (by rfl) ?_
    simp only [Act.put, List.setIfInBounds_toArray, List.set_cons_zero, List.set_cons_succ]
    refine mix_off (by rfl) ?_
    simp only [Act.put, List.setIfInBounds_toArray, List.set_cons_zero, List.set_cons_succ]
    refine mix_val (.bool false) (by rfl) (fun _ _ => by rfl) ?_
    simp only [Act.put, List.setIfInBounds_toArray, List.set_cons_zero, List.set_cons_succ]
    refine mix_store_fact (by rfl) _ _ rfl (w.heap.size + 1) (keepV v) (keepT v t) rfl rfl _ R3.out rfl hone ⟨(setRow_other _ _ _ _ (by omega)).trans F3.out, (setRow_other _ _ _ _ (by omega)).trans G3.out⟩ ?_
    simp only [Act.put]
    refine mix_val (.bool false) (by rfl) (fun _ _ => by rfl) ?_
    simp only [Act.put, List.setIfInBounds_toArray, List.set_cons_zero, List.set_cons_succ]
    refine mix_done ?_
    go_wp2_with fail
    refine bodyPost_ret (results_fact_tmp rfl _ _ (w.heap.size + 1) (keepV v) (keepT v t) _ rfl (setRow_heap _ _ _ _ _ _ R3.out) rfl) rfl ?_
    exact ⟨rfl, below_setRow' (Below.drew (Below.drew (Below.drew (B3.out)))) _ _ (by omega)⟩
  rcases e1 with _ | _
  · refine wp_region_mix (fun w' => w'.heap[w.heap.size]? = some (.cells (factC v t) 40 (0, 0)) ∧ w'.heap[AG]? = some (.cells (factC (keepV v) (keepT v t)) 40 (0, 0))) [true, true, true, true, true, true, true, true, true, true, true, true, true, true, true, true, true, true, true, true, true, true, true, true, true, true, true, true, true, true, true, true, true, true, true, true, true, true, true, true, true, true, true, true, true, true, false, true] (by kernel_rfl) (by kernel_rfl) ⟨F3.out, G3.out⟩ ?_
    refine mix_load_fact (by rfl) _ rfl AG rfl (keepV v) (keepT v t) (fun _ hc => hc.2) ?_
    simp only [Act.put, List.setIfInBounds_toArray, List.set_cons_zero, List.set_cons_succ]
    refine mix_val (.pointer (some ⟨w.heap.size, 1, none⟩)) (by rfl) (fun _ _ => by go_simp) ?_
    simp only [Act.put, List.setIfInBounds_toArray, List.set_cons_zero, List.set_cons_succ]
    refine mix_load_int (by rfl) _ rfl ⟨w.heap.size, 1, none⟩ rfl (.int .i64 (v 1)) (fun _ hc => fact_cell 1 (by decide) hc.1) ?_
    simp only [Act.put, List.setIfInBounds_toArray, List.set_cons_zero, List.set_cons_succ]
    refine mix_call 64 #[.int .i64 (v 1)] (.bool true) (by rfl) (fun _ => by go_simp) H0.out ?_
    simp only [Act.put, List.setIfInBounds_toArray, List.set_cons_zero, List.set_cons_succ]
    refine mix_val (.bool true) (by rfl) (fun _ _ => by rfl) ?_
    simp only [Act.put, List.setIfInBounds_toArray, List.set_cons_zero, List.set_cons_succ]
    refine mix_val (.pointer (some ⟨w.heap.size, 7, none⟩)) (by rfl) (fun _ _ => by go_simp) ?_
    simp only [Act.put, List.setIfInBounds_toArray, List.set_cons_zero, List.set_cons_succ]
    refine mix_load_int (by rfl) _ rfl ⟨w.heap.size, 7, none⟩ rfl (.int .i64 (v 7)) (fun _ hc => fact_cell 7 (by decide) hc.1) ?_
    simp only [Act.put, List.setIfInBounds_toArray, List.set_cons_zero, List.set_cons_succ]
    refine mix_call 64 #[.int .i64 (v 7)] (.bool false) (by rfl) (fun _ => by go_simp) H1.out ?_
    simp only [Act.put, List.setIfInBounds_toArray, List.set_cons_zero, List.set_cons_succ]
    refine mix_val (.bool false) (by rfl) (fun _ _ => by rfl) ?_
    simp only [Act.put, List.setIfInBounds_toArray, List.set_cons_zero, List.set_cons_succ]
    refine mix_val (.bool false) (by rfl) (fun _ _ => by rfl) ?_
    simp only [Act.put, List.setIfInBounds_toArray, List.set_cons_zero, List.set_cons_succ]
    refine mix_off (by rfl) ?_
    simp only [Act.put, List.setIfInBounds_toArray, List.set_cons_zero, List.set_cons_succ]
    refine mix_off (by rfl) ?_
    simp only [Act.put, List.setIfInBounds_toArray, List.set_cons_zero, List.set_cons_succ]
    refine mix_off (by rfl) ?_
    simp only [Act.put, List.setIfInBounds_toArray, List.set_cons_zero, List.set_cons_succ]
    refine mix_val (.bool false) (by rfl) (fun _ _ => by rfl) ?_
    simp only [Act.put, List.setIfInBounds_toArray, List.set_cons_zero, List.set_cons_succ]
    refine mix_val (.bool false) (by rfl) (fun _ _ => by rfl) ?_
    simp only [Act.put, List.setIfInBounds_toArray, List.set_cons_zero, List.set_cons_succ]
    refine mix_off (by rfl) ?_
    simp only [Act.put, List.setIfInBounds_toArray, List.set_cons_zero, List.set_cons_succ]
    refine mix_off (by rfl) ?_
    simp only [Act.put, List.setIfInBounds_toArray, List.set_cons_zero, List.set_cons_succ]
    refine mix_off (by rfl) ?_
    simp only [Act.put, List.setIfInBounds_toArray, List.set_cons_zero, List.set_cons_succ]
    refine mix_val (.bool false) (by rfl) (fun _ _ => by rfl) ?_
    simp only [Act.put, List.setIfInBounds_toArray, List.set_cons_zero, List.set_cons_succ]
    refine mix_val (.bool false) (by rfl) (fun _ _ => by rfl) ?_
    simp only [Act.put, List.setIfInBounds_toArray, List.set_cons_zero, List.set_cons_succ]
    refine mix_off (by rfl) ?_
    simp only [Act.put, List.setIfInBounds_toArray, List.set_cons_zero, List.set_cons_succ]
    refine mix_off (by rfl) ?_
    simp only [Act.put, List.setIfInBounds_toArray, List.set_cons_zero, List.set_cons_succ]
    refine mix_off (by rfl) ?_
    simp only [Act.put, List.setIfInBounds_toArray, List.set_cons_zero, List.set_cons_succ]
    refine mix_val (.bool false) (by rfl) (fun _ _ => by rfl) ?_
    simp only [Act.put, List.setIfInBounds_toArray, List.set_cons_zero, List.set_cons_succ]
    refine mix_val (.bool false) (by rfl) (fun _ _ => by rfl) ?_
    simp only [Act.put, List.setIfInBounds_toArray, List.set_cons_zero, List.set_cons_succ]
    refine mix_off (by rfl) ?_
    simp only [Act.put, List.setIfInBounds_toArray, List.set_cons_zero, List.set_cons_succ]
    refine mix_off (by rfl) ?_
    simp only [Act.put, List.setIfInBounds_toArray, List.set_cons_zero, List.set_cons_succ]
    refine mix_off (by rfl) ?_
    simp only [Act.put, List.setIfInBounds_toArray, List.set_cons_zero, List.set_cons_succ]
    refine mix_val (.bool false) (by rfl) (fun _ _ => by rfl) ?_
    simp only [Act.put, List.setIfInBounds_toArray, List.set_cons_zero, List.set_cons_succ]
    refine mix_val (.bool false) (by rfl) (fun _ _ => by rfl) ?_
    simp only [Act.put, List.setIfInBounds_toArray, List.set_cons_zero, List.set_cons_succ]
    refine mix_off (by rfl) ?_
    simp only [Act.put, List.setIfInBounds_toArray, List.set_cons_zero, List.set_cons_succ]
    refine mix_off (by rfl) ?_
    simp only [Act.put, List.setIfInBounds_toArray, List.set_cons_zero, List.set_cons_succ]
    refine mix_off (by rfl) ?_
    simp only [Act.put, List.setIfInBounds_toArray, List.set_cons_zero, List.set_cons_succ]
    refine mix_off (by rfl) ?_
    simp only [Act.put, List.setIfInBounds_toArray, List.set_cons_zero, List.set_cons_succ]
    refine mix_off (by rfl) ?_
    simp only [Act.put, List.setIfInBounds_toArray, List.set_cons_zero, List.set_cons_succ]
    refine mix_val (.bool false) (by rfl) (fun _ _ => by rfl) ?_
    simp only [Act.put, List.setIfInBounds_toArray, List.set_cons_zero, List.set_cons_succ]
    refine mix_val (.bool false) (by rfl) (fun _ _ => by rfl) ?_
    simp only [Act.put, List.setIfInBounds_toArray, List.set_cons_zero, List.set_cons_succ]
    refine mix_off (by rfl) ?_
    simp only [Act.put, List.setIfInBounds_toArray, List.set_cons_zero, List.set_cons_succ]
    refine mix_off (by rfl) ?_
    simp only [Act.put, List.setIfInBounds_toArray, List.set_cons_zero, List.set_cons_succ]
    refine mix_off (by rfl) ?_
    simp only [Act.put, List.setIfInBounds_toArray, List.set_cons_zero, List.set_cons_succ]
    refine mix_val (.bool false) (by rfl) (fun _ _ => by rfl) ?_
    simp only [Act.put, List.setIfInBounds_toArray, List.set_cons_zero, List.set_cons_succ]
    refine mix_val (.bool false) (by rfl) (fun _ _ => by rfl) ?_
    simp only [Act.put, List.setIfInBounds_toArray, List.set_cons_zero, List.set_cons_succ]
    refine mix_off (by rfl) ?_
    simp only [Act.put, List.setIfInBounds_toArray, List.set_cons_zero, List.set_cons_succ]
    refine mix_off (by rfl) ?_
    simp only [Act.put, List.setIfInBounds_toArray, List.set_cons_zero, List.set_cons_succ]
    refine mix_off (by rfl) ?_
    simp only [Act.put, List.setIfInBounds_toArray, List.set_cons_zero, List.set_cons_succ]
    refine mix_val (.bool false) (by rfl) (fun _ _ => by rfl) ?_
    simp only [Act.put, List.setIfInBounds_toArray, List.set_cons_zero, List.set_cons_succ]
    refine mix_store_fact (by rfl) _ _ rfl (w.heap.size + 1) (keepV v) (keepT v t) rfl rfl _ R3.out rfl hone ⟨(setRow_other _ _ _ _ (by omega)).trans F3.out, (setRow_other _ _ _ _ (by omega)).trans G3.out⟩ ?_
    simp only [Act.put]
    refine mix_val (.bool false) (by rfl) (fun _ _ => by rfl) ?_
    simp only [Act.put, List.setIfInBounds_toArray, List.set_cons_zero, List.set_cons_succ]
    refine mix_done ?_
    go_wp2_with fail
    refine bodyPost_ret (results_fact_tmp rfl _ _ (w.heap.size + 1) (keepV v) (keepT v t) _ rfl (setRow_heap _ _ _ _ _ _ R3.out) rfl) rfl ?_
    exact ⟨rfl, below_setRow' (Below.drew (Below.drew (Below.drew (B3.out)))) _ _ (by omega)⟩
  rcases e2 with _ | _
  · refine wp_region_mix (fun w' => w'.heap[w.heap.size]? = some (.cells (factC v t) 40 (0, 0)) ∧ w'.heap[AG]? = some (.cells (factC (keepV v) (keepT v t)) 40 (0, 0))) [true, true, true, true, true, true, true, true, true, true, true, true, true, true, true, true, true, true, true, true, true, true, true, true, true, true, true, true, true, true, true, true, true, true, true, true, true, true, true, true, true, true, true, true, true, true, false, true] (by kernel_rfl) (by kernel_rfl) ⟨F3.out, G3.out⟩ ?_
    refine mix_load_fact (by rfl) _ rfl AG rfl (keepV v) (keepT v t) (fun _ hc => hc.2) ?_
    simp only [Act.put, List.setIfInBounds_toArray, List.set_cons_zero, List.set_cons_succ]
    refine mix_val (.pointer (some ⟨w.heap.size, 1, none⟩)) (by rfl) (fun _ _ => by go_simp) ?_
    simp only [Act.put, List.setIfInBounds_toArray, List.set_cons_zero, List.set_cons_succ]
    refine mix_load_int (by rfl) _ rfl ⟨w.heap.size, 1, none⟩ rfl (.int .i64 (v 1)) (fun _ hc => fact_cell 1 (by decide) hc.1) ?_
    simp only [Act.put, List.setIfInBounds_toArray, List.set_cons_zero, List.set_cons_succ]
    refine mix_call 64 #[.int .i64 (v 1)] (.bool true) (by rfl) (fun _ => by go_simp) H0.out ?_
    simp only [Act.put, List.setIfInBounds_toArray, List.set_cons_zero, List.set_cons_succ]
    refine mix_val (.bool true) (by rfl) (fun _ _ => by rfl) ?_
    simp only [Act.put, List.setIfInBounds_toArray, List.set_cons_zero, List.set_cons_succ]
    refine mix_val (.pointer (some ⟨w.heap.size, 7, none⟩)) (by rfl) (fun _ _ => by go_simp) ?_
    simp only [Act.put, List.setIfInBounds_toArray, List.set_cons_zero, List.set_cons_succ]
    refine mix_load_int (by rfl) _ rfl ⟨w.heap.size, 7, none⟩ rfl (.int .i64 (v 7)) (fun _ hc => fact_cell 7 (by decide) hc.1) ?_
    simp only [Act.put, List.setIfInBounds_toArray, List.set_cons_zero, List.set_cons_succ]
    refine mix_call 64 #[.int .i64 (v 7)] (.bool true) (by rfl) (fun _ => by go_simp) H1.out ?_
    simp only [Act.put, List.setIfInBounds_toArray, List.set_cons_zero, List.set_cons_succ]
    refine mix_val (.bool true) (by rfl) (fun _ _ => by rfl) ?_
    simp only [Act.put, List.setIfInBounds_toArray, List.set_cons_zero, List.set_cons_succ]
    refine mix_val (.bool true) (by rfl) (fun _ _ => by rfl) ?_
    simp only [Act.put, List.setIfInBounds_toArray, List.set_cons_zero, List.set_cons_succ]
    refine mix_val (.pointer (some ⟨w.heap.size, 9, none⟩)) (by rfl) (fun _ _ => by go_simp) ?_
    simp only [Act.put, List.setIfInBounds_toArray, List.set_cons_zero, List.set_cons_succ]
    refine mix_load_int (by rfl) _ rfl ⟨w.heap.size, 9, none⟩ rfl (.int .i64 (v 9)) (fun _ hc => fact_cell 9 (by decide) hc.1) ?_
    simp only [Act.put, List.setIfInBounds_toArray, List.set_cons_zero, List.set_cons_succ]
    refine mix_call 64 #[.int .i64 (v 9)] (.bool false) (by rfl) (fun _ => by go_simp) H2.out ?_
    simp only [Act.put, List.setIfInBounds_toArray, List.set_cons_zero, List.set_cons_succ]
    refine mix_val (.bool false) (by rfl) (fun _ _ => by rfl) ?_
    simp only [Act.put, List.setIfInBounds_toArray, List.set_cons_zero, List.set_cons_succ]
    refine mix_val (.bool false) (by rfl) (fun _ _ => by rfl) ?_
    simp only [Act.put, List.setIfInBounds_toArray, List.set_cons_zero, List.set_cons_succ]
    refine mix_off (by rfl) ?_
    simp only [Act.put, List.setIfInBounds_toArray, List.set_cons_zero, List.set_cons_succ]
    refine mix_off (by rfl) ?_
    simp only [Act.put, List.setIfInBounds_toArray, List.set_cons_zero, List.set_cons_succ]
    refine mix_off (by rfl) ?_
    simp only [Act.put, List.setIfInBounds_toArray, List.set_cons_zero, List.set_cons_succ]
    refine mix_val (.bool false) (by rfl) (fun _ _ => by rfl) ?_
    simp only [Act.put, List.setIfInBounds_toArray, List.set_cons_zero, List.set_cons_succ]
    refine mix_val (.bool false) (by rfl) (fun _ _ => by rfl) ?_
    simp only [Act.put, List.setIfInBounds_toArray, List.set_cons_zero, List.set_cons_succ]
    refine mix_off (by rfl) ?_
    simp only [Act.put, List.setIfInBounds_toArray, List.set_cons_zero, List.set_cons_succ]
    refine mix_off (by rfl) ?_
    simp only [Act.put, List.setIfInBounds_toArray, List.set_cons_zero, List.set_cons_succ]
    refine mix_off (by rfl) ?_
    simp only [Act.put, List.setIfInBounds_toArray, List.set_cons_zero, List.set_cons_succ]
    refine mix_val (.bool false) (by rfl) (fun _ _ => by rfl) ?_
    simp only [Act.put, List.setIfInBounds_toArray, List.set_cons_zero, List.set_cons_succ]
    refine mix_val (.bool false) (by rfl) (fun _ _ => by rfl) ?_
    simp only [Act.put, List.setIfInBounds_toArray, List.set_cons_zero, List.set_cons_succ]
    refine mix_off (by rfl) ?_
    simp only [Act.put, List.setIfInBounds_toArray, List.set_cons_zero, List.set_cons_succ]
    refine mix_off (by rfl) ?_
    simp only [Act.put, List.setIfInBounds_toArray, List.set_cons_zero, List.set_cons_succ]
    refine mix_off (by rfl) ?_
    simp only [Act.put, List.setIfInBounds_toArray, List.set_cons_zero, List.set_cons_succ]
    refine mix_val (.bool false) (by rfl) (fun _ _ => by rfl) ?_
    simp only [Act.put, List.setIfInBounds_toArray, List.set_cons_zero, List.set_cons_succ]
    refine mix_val (.bool false) (by rfl) (fun _ _ => by rfl) ?_
    simp only [Act.put, List.setIfInBounds_toArray, List.set_cons_zero, List.set_cons_succ]
    refine mix_off (by rfl) ?_
    simp only [Act.put, List.setIfInBounds_toArray, List.set_cons_zero, List.set_cons_succ]
    refine mix_off (by rfl) ?_
    simp only [Act.put, List.setIfInBounds_toArray, List.set_cons_zero, List.set_cons_succ]
    refine mix_off (by rfl) ?_
    simp only [Act.put, List.setIfInBounds_toArray, List.set_cons_zero, List.set_cons_succ]
    refine mix_off (by rfl) ?_
    simp only [Act.put, List.setIfInBounds_toArray, List.set_cons_zero, List.set_cons_succ]
    refine mix_off (by rfl) ?_
    simp only [Act.put, List.setIfInBounds_toArray, List.set_cons_zero, List.set_cons_succ]
    refine mix_val (.bool false) (by rfl) (fun _ _ => by rfl) ?_
    simp only [Act.put, List.setIfInBounds_toArray, List.set_cons_zero, List.set_cons_succ]
    refine mix_val (.bool false) (by rfl) (fun _ _ => by rfl) ?_
    simp only [Act.put, List.setIfInBounds_toArray, List.set_cons_zero, List.set_cons_succ]
    refine mix_off (by rfl) ?_
    simp only [Act.put, List.setIfInBounds_toArray, List.set_cons_zero, List.set_cons_succ]
    refine mix_off (by rfl) ?_
    simp only [Act.put, List.setIfInBounds_toArray, List.set_cons_zero, List.set_cons_succ]
    refine mix_off (by rfl) ?_
    simp only [Act.put, List.setIfInBounds_toArray, List.set_cons_zero, List.set_cons_succ]
    refine mix_val (.bool false) (by rfl) (fun _ _ => by rfl) ?_
    simp only [Act.put, List.setIfInBounds_toArray, List.set_cons_zero, List.set_cons_succ]
    refine mix_val (.bool false) (by rfl) (fun _ _ => by rfl) ?_
    simp only [Act.put, List.setIfInBounds_toArray, List.set_cons_zero, List.set_cons_succ]
    refine mix_off (by rfl) ?_
    simp only [Act.put, List.setIfInBounds_toArray, List.set_cons_zero, List.set_cons_succ]
    refine mix_off (by rfl) ?_
    simp only [Act.put, List.setIfInBounds_toArray, List.set_cons_zero, List.set_cons_succ]
    refine mix_off (by rfl) ?_
    simp only [Act.put, List.setIfInBounds_toArray, List.set_cons_zero, List.set_cons_succ]
    refine mix_val (.bool false) (by rfl) (fun _ _ => by rfl) ?_
    simp only [Act.put, List.setIfInBounds_toArray, List.set_cons_zero, List.set_cons_succ]
    refine mix_store_fact (by rfl) _ _ rfl (w.heap.size + 1) (keepV v) (keepT v t) rfl rfl _ R3.out rfl hone ⟨(setRow_other _ _ _ _ (by omega)).trans F3.out, (setRow_other _ _ _ _ (by omega)).trans G3.out⟩ ?_
    simp only [Act.put]
    refine mix_val (.bool false) (by rfl) (fun _ _ => by rfl) ?_
    simp only [Act.put, List.setIfInBounds_toArray, List.set_cons_zero, List.set_cons_succ]
    refine mix_done ?_
    go_wp2_with fail
    refine bodyPost_ret (results_fact_tmp rfl _ _ (w.heap.size + 1) (keepV v) (keepT v t) _ rfl (setRow_heap _ _ _ _ _ _ R3.out) rfl) rfl ?_
    exact ⟨rfl, below_setRow' (Below.drew (Below.drew (Below.drew (B3.out)))) _ _ (by omega)⟩
  rcases e3 with _ | _
  · refine wp_region_mix (fun w' => w'.heap[w.heap.size]? = some (.cells (factC v t) 40 (0, 0)) ∧ w'.heap[AG]? = some (.cells (factC (keepV v) (keepT v t)) 40 (0, 0))) [true, true, true, true, true, true, true, true, true, true, true, true, true, true, true, true, true, true, true, true, true, true, true, true, true, true, true, true, true, true, true, true, true, true, true, true, true, true, true, true, true, true, true, true, true, true, false, true] (by kernel_rfl) (by kernel_rfl) ⟨F3.out, G3.out⟩ ?_
    refine mix_load_fact (by rfl) _ rfl AG rfl (keepV v) (keepT v t) (fun _ hc => hc.2) ?_
    simp only [Act.put, List.setIfInBounds_toArray, List.set_cons_zero, List.set_cons_succ]
    refine mix_val (.pointer (some ⟨w.heap.size, 1, none⟩)) (by rfl) (fun _ _ => by go_simp) ?_
    simp only [Act.put, List.setIfInBounds_toArray, List.set_cons_zero, List.set_cons_succ]
    refine mix_load_int (by rfl) _ rfl ⟨w.heap.size, 1, none⟩ rfl (.int .i64 (v 1)) (fun _ hc => fact_cell 1 (by decide) hc.1) ?_
    simp only [Act.put, List.setIfInBounds_toArray, List.set_cons_zero, List.set_cons_succ]
    refine mix_call 64 #[.int .i64 (v 1)] (.bool true) (by rfl) (fun _ => by go_simp) H0.out ?_
    simp only [Act.put, List.setIfInBounds_toArray, List.set_cons_zero, List.set_cons_succ]
    refine mix_val (.bool true) (by rfl) (fun _ _ => by rfl) ?_
    simp only [Act.put, List.setIfInBounds_toArray, List.set_cons_zero, List.set_cons_succ]
    refine mix_val (.pointer (some ⟨w.heap.size, 7, none⟩)) (by rfl) (fun _ _ => by go_simp) ?_
    simp only [Act.put, List.setIfInBounds_toArray, List.set_cons_zero, List.set_cons_succ]
    refine mix_load_int (by rfl) _ rfl ⟨w.heap.size, 7, none⟩ rfl (.int .i64 (v 7)) (fun _ hc => fact_cell 7 (by decide) hc.1) ?_
    simp only [Act.put, List.setIfInBounds_toArray, List.set_cons_zero, List.set_cons_succ]
    refine mix_call 64 #[.int .i64 (v 7)] (.bool true) (by rfl) (fun _ => by go_simp) H1.out ?_
    simp only [Act.put, List.setIfInBounds_toArray, List.set_cons_zero, List.set_cons_succ]
    refine mix_val (.bool true) (by rfl) (fun _ _ => by rfl) ?_
    simp only [Act.put, List.setIfInBounds_toArray, List.set_cons_zero, List.set_cons_succ]
    refine mix_val (.bool true) (by rfl) (fun _ _ => by rfl) ?_
    simp only [Act.put, List.setIfInBounds_toArray, List.set_cons_zero, List.set_cons_succ]
    refine mix_val (.pointer (some ⟨w.heap.size, 9, none⟩)) (by rfl) (fun _ _ => by go_simp) ?_
    simp only [Act.put, List.setIfInBounds_toArray, List.set_cons_zero, List.set_cons_succ]
    refine mix_load_int (by rfl) _ rfl ⟨w.heap.size, 9, none⟩ rfl (.int .i64 (v 9)) (fun _ hc => fact_cell 9 (by decide) hc.1) ?_
    simp only [Act.put, List.setIfInBounds_toArray, List.set_cons_zero, List.set_cons_succ]
    refine mix_call 64 #[.int .i64 (v 9)] (.bool true) (by rfl) (fun _ => by go_simp) H2.out ?_
    simp only [Act.put, List.setIfInBounds_toArray, List.set_cons_zero, List.set_cons_succ]
    refine mix_val (.bool true) (by rfl) (fun _ _ => by rfl) ?_
    simp only [Act.put, List.setIfInBounds_toArray, List.set_cons_zero, List.set_cons_succ]
    refine mix_val (.bool true) (by rfl) (fun _ _ => by rfl) ?_
    simp only [Act.put, List.setIfInBounds_toArray, List.set_cons_zero, List.set_cons_succ]
    refine mix_val (.pointer (some ⟨w.heap.size, 10, none⟩)) (by rfl) (fun _ _ => by go_simp) ?_
    simp only [Act.put, List.setIfInBounds_toArray, List.set_cons_zero, List.set_cons_succ]
    refine mix_load_int (by rfl) _ rfl ⟨w.heap.size, 10, none⟩ rfl (.int .i64 (v 10)) (fun _ hc => fact_cell 10 (by decide) hc.1) ?_
    simp only [Act.put, List.setIfInBounds_toArray, List.set_cons_zero, List.set_cons_succ]
    refine mix_call 49 #[.int .i64 (v 10), .int .i64 1, .int .i64 2] (.bool false) (by rfl) (fun _ => by go_simp) H3.out ?_
    simp only [Act.put, List.setIfInBounds_toArray, List.set_cons_zero, List.set_cons_succ]
    refine mix_val (.bool false) (by rfl) (fun _ _ => by rfl) ?_
    simp only [Act.put, List.setIfInBounds_toArray, List.set_cons_zero, List.set_cons_succ]
    refine mix_val (.bool false) (by rfl) (fun _ _ => by rfl) ?_
    simp only [Act.put, List.setIfInBounds_toArray, List.set_cons_zero, List.set_cons_succ]
    refine mix_off (by rfl) ?_
    simp only [Act.put, List.setIfInBounds_toArray, List.set_cons_zero, List.set_cons_succ]
    refine mix_off (by rfl) ?_
    simp only [Act.put, List.setIfInBounds_toArray, List.set_cons_zero, List.set_cons_succ]
    refine mix_off (by rfl) ?_
    simp only [Act.put, List.setIfInBounds_toArray, List.set_cons_zero, List.set_cons_succ]
    refine mix_val (.bool false) (by rfl) (fun _ _ => by rfl) ?_
    simp only [Act.put, List.setIfInBounds_toArray, List.set_cons_zero, List.set_cons_succ]
    refine mix_val (.bool false) (by rfl) (fun _ _ => by rfl) ?_
    simp only [Act.put, List.setIfInBounds_toArray, List.set_cons_zero, List.set_cons_succ]
    refine mix_off (by rfl) ?_
    simp only [Act.put, List.setIfInBounds_toArray, List.set_cons_zero, List.set_cons_succ]
    refine mix_off (by rfl) ?_
    simp only [Act.put, List.setIfInBounds_toArray, List.set_cons_zero, List.set_cons_succ]
    refine mix_off (by rfl) ?_
    simp only [Act.put, List.setIfInBounds_toArray, List.set_cons_zero, List.set_cons_succ]
    refine mix_val (.bool false) (by rfl) (fun _ _ => by rfl) ?_
    simp only [Act.put, List.setIfInBounds_toArray, List.set_cons_zero, List.set_cons_succ]
    refine mix_val (.bool false) (by rfl) (fun _ _ => by rfl) ?_
    simp only [Act.put, List.setIfInBounds_toArray, List.set_cons_zero, List.set_cons_succ]
    refine mix_off (by rfl) ?_
    simp only [Act.put, List.setIfInBounds_toArray, List.set_cons_zero, List.set_cons_succ]
    refine mix_off (by rfl) ?_
    simp only [Act.put, List.setIfInBounds_toArray, List.set_cons_zero, List.set_cons_succ]
    refine mix_off (by rfl) ?_
    simp only [Act.put, List.setIfInBounds_toArray, List.set_cons_zero, List.set_cons_succ]
    refine mix_off (by rfl) ?_
    simp only [Act.put, List.setIfInBounds_toArray, List.set_cons_zero, List.set_cons_succ]
    refine mix_off (by rfl) ?_
    simp only [Act.put, List.setIfInBounds_toArray, List.set_cons_zero, List.set_cons_succ]
    refine mix_val (.bool false) (by rfl) (fun _ _ => by rfl) ?_
    simp only [Act.put, List.setIfInBounds_toArray, List.set_cons_zero, List.set_cons_succ]
    refine mix_val (.bool false) (by rfl) (fun _ _ => by rfl) ?_
    simp only [Act.put, List.setIfInBounds_toArray, List.set_cons_zero, List.set_cons_succ]
    refine mix_off (by rfl) ?_
    simp only [Act.put, List.setIfInBounds_toArray, List.set_cons_zero, List.set_cons_succ]
    refine mix_off (by rfl) ?_
    simp only [Act.put, List.setIfInBounds_toArray, List.set_cons_zero, List.set_cons_succ]
    refine mix_off (by rfl) ?_
    simp only [Act.put, List.setIfInBounds_toArray, List.set_cons_zero, List.set_cons_succ]
    refine mix_val (.bool false) (by rfl) (fun _ _ => by rfl) ?_
    simp only [Act.put, List.setIfInBounds_toArray, List.set_cons_zero, List.set_cons_succ]
    refine mix_val (.bool false) (by rfl) (fun _ _ => by rfl) ?_
    simp only [Act.put, List.setIfInBounds_toArray, List.set_cons_zero, List.set_cons_succ]
    refine mix_off (by rfl) ?_
    simp only [Act.put, List.setIfInBounds_toArray, List.set_cons_zero, List.set_cons_succ]
    refine mix_off (by rfl) ?_
    simp only [Act.put, List.setIfInBounds_toArray, List.set_cons_zero, List.set_cons_succ]
    refine mix_off (by rfl) ?_
    simp only [Act.put, List.setIfInBounds_toArray, List.set_cons_zero, List.set_cons_succ]
    refine mix_val (.bool false) (by rfl) (fun _ _ => by rfl) ?_
    simp only [Act.put, List.setIfInBounds_toArray, List.set_cons_zero, List.set_cons_succ]
    refine mix_store_fact (by rfl) _ _ rfl (w.heap.size + 1) (keepV v) (keepT v t) rfl rfl _ R3.out rfl hone ⟨(setRow_other _ _ _ _ (by omega)).trans F3.out, (setRow_other _ _ _ _ (by omega)).trans G3.out⟩ ?_
    simp only [Act.put]
    refine mix_val (.bool false) (by rfl) (fun _ _ => by rfl) ?_
    simp only [Act.put, List.setIfInBounds_toArray, List.set_cons_zero, List.set_cons_succ]
    refine mix_done ?_
    go_wp2_with fail
    refine bodyPost_ret (results_fact_tmp rfl _ _ (w.heap.size + 1) (keepV v) (keepT v t) _ rfl (setRow_heap _ _ _ _ _ _ R3.out) rfl) rfl ?_
    exact ⟨rfl, below_setRow' (Below.drew (Below.drew (Below.drew (B3.out)))) _ _ (by omega)⟩
  rcases e4 with _ | _
  · refine wp_region_mix (fun w' => w'.heap[w.heap.size]? = some (.cells (factC v t) 40 (0, 0)) ∧ w'.heap[AG]? = some (.cells (factC (keepV v) (keepT v t)) 40 (0, 0))) [true, true, true, true, true, true, true, true, true, true, true, true, true, true, true, true, true, true, true, true, true, true, true, true, true, true, true, true, true, true, true, true, true, true, true, true, true, true, true, true, true, true, true, true, true, true, false, true] (by kernel_rfl) (by kernel_rfl) ⟨F3.out, G3.out⟩ ?_
    refine mix_load_fact (by rfl) _ rfl AG rfl (keepV v) (keepT v t) (fun _ hc => hc.2) ?_
    simp only [Act.put, List.setIfInBounds_toArray, List.set_cons_zero, List.set_cons_succ]
    refine mix_val (.pointer (some ⟨w.heap.size, 1, none⟩)) (by rfl) (fun _ _ => by go_simp) ?_
    simp only [Act.put, List.setIfInBounds_toArray, List.set_cons_zero, List.set_cons_succ]
    refine mix_load_int (by rfl) _ rfl ⟨w.heap.size, 1, none⟩ rfl (.int .i64 (v 1)) (fun _ hc => fact_cell 1 (by decide) hc.1) ?_
    simp only [Act.put, List.setIfInBounds_toArray, List.set_cons_zero, List.set_cons_succ]
    refine mix_call 64 #[.int .i64 (v 1)] (.bool true) (by rfl) (fun _ => by go_simp) H0.out ?_
    simp only [Act.put, List.setIfInBounds_toArray, List.set_cons_zero, List.set_cons_succ]
    refine mix_val (.bool true) (by rfl) (fun _ _ => by rfl) ?_
    simp only [Act.put, List.setIfInBounds_toArray, List.set_cons_zero, List.set_cons_succ]
    refine mix_val (.pointer (some ⟨w.heap.size, 7, none⟩)) (by rfl) (fun _ _ => by go_simp) ?_
    simp only [Act.put, List.setIfInBounds_toArray, List.set_cons_zero, List.set_cons_succ]
    refine mix_load_int (by rfl) _ rfl ⟨w.heap.size, 7, none⟩ rfl (.int .i64 (v 7)) (fun _ hc => fact_cell 7 (by decide) hc.1) ?_
    simp only [Act.put, List.setIfInBounds_toArray, List.set_cons_zero, List.set_cons_succ]
    refine mix_call 64 #[.int .i64 (v 7)] (.bool true) (by rfl) (fun _ => by go_simp) H1.out ?_
    simp only [Act.put, List.setIfInBounds_toArray, List.set_cons_zero, List.set_cons_succ]
    refine mix_val (.bool true) (by rfl) (fun _ _ => by rfl) ?_
    simp only [Act.put, List.setIfInBounds_toArray, List.set_cons_zero, List.set_cons_succ]
    refine mix_val (.bool true) (by rfl) (fun _ _ => by rfl) ?_
    simp only [Act.put, List.setIfInBounds_toArray, List.set_cons_zero, List.set_cons_succ]
    refine mix_val (.pointer (some ⟨w.heap.size, 9, none⟩)) (by rfl) (fun _ _ => by go_simp) ?_
    simp only [Act.put, List.setIfInBounds_toArray, List.set_cons_zero, List.set_cons_succ]
    refine mix_load_int (by rfl) _ rfl ⟨w.heap.size, 9, none⟩ rfl (.int .i64 (v 9)) (fun _ hc => fact_cell 9 (by decide) hc.1) ?_
    simp only [Act.put, List.setIfInBounds_toArray, List.set_cons_zero, List.set_cons_succ]
    refine mix_call 64 #[.int .i64 (v 9)] (.bool true) (by rfl) (fun _ => by go_simp) H2.out ?_
    simp only [Act.put, List.setIfInBounds_toArray, List.set_cons_zero, List.set_cons_succ]
    refine mix_val (.bool true) (by rfl) (fun _ _ => by rfl) ?_
    simp only [Act.put, List.setIfInBounds_toArray, List.set_cons_zero, List.set_cons_succ]
    refine mix_val (.bool true) (by rfl) (fun _ _ => by rfl) ?_
    simp only [Act.put, List.setIfInBounds_toArray, List.set_cons_zero, List.set_cons_succ]
    refine mix_val (.pointer (some ⟨w.heap.size, 10, none⟩)) (by rfl) (fun _ _ => by go_simp) ?_
    simp only [Act.put, List.setIfInBounds_toArray, List.set_cons_zero, List.set_cons_succ]
    refine mix_load_int (by rfl) _ rfl ⟨w.heap.size, 10, none⟩ rfl (.int .i64 (v 10)) (fun _ hc => fact_cell 10 (by decide) hc.1) ?_
    simp only [Act.put, List.setIfInBounds_toArray, List.set_cons_zero, List.set_cons_succ]
    refine mix_call 49 #[.int .i64 (v 10), .int .i64 1, .int .i64 2] (.bool true) (by rfl) (fun _ => by go_simp) H3.out ?_
    simp only [Act.put, List.setIfInBounds_toArray, List.set_cons_zero, List.set_cons_succ]
    refine mix_val (.bool true) (by rfl) (fun _ _ => by rfl) ?_
    simp only [Act.put, List.setIfInBounds_toArray, List.set_cons_zero, List.set_cons_succ]
    refine mix_val (.bool true) (by rfl) (fun _ _ => by rfl) ?_
    simp only [Act.put, List.setIfInBounds_toArray, List.set_cons_zero, List.set_cons_succ]
    refine mix_val (.pointer (some ⟨w.heap.size, 8, none⟩)) (by rfl) (fun _ _ => by go_simp) ?_
    simp only [Act.put, List.setIfInBounds_toArray, List.set_cons_zero, List.set_cons_succ]
    refine mix_load_int (by rfl) _ rfl ⟨w.heap.size, 8, none⟩ rfl (.int .i64 (v 8)) (fun _ hc => fact_cell 8 (by decide) hc.1) ?_
    simp only [Act.put, List.setIfInBounds_toArray, List.set_cons_zero, List.set_cons_succ]
    refine mix_call 49 #[.int .i64 (v 8), .int .i64 1, .int .i64 255] (.bool false) (by rfl) (fun _ => by go_simp) H4.out ?_
    simp only [Act.put, List.setIfInBounds_toArray, List.set_cons_zero, List.set_cons_succ]
    refine mix_val (.bool false) (by rfl) (fun _ _ => by rfl) ?_
    simp only [Act.put, List.setIfInBounds_toArray, List.set_cons_zero, List.set_cons_succ]
    refine mix_val (.bool false) (by rfl) (fun _ _ => by rfl) ?_
    simp only [Act.put, List.setIfInBounds_toArray, List.set_cons_zero, List.set_cons_succ]
    refine mix_off (by rfl) ?_
    simp only [Act.put, List.setIfInBounds_toArray, List.set_cons_zero, List.set_cons_succ]
    refine mix_off (by rfl) ?_
    simp only [Act.put, List.setIfInBounds_toArray, List.set_cons_zero, List.set_cons_succ]
    refine mix_off (by rfl) ?_
    simp only [Act.put, List.setIfInBounds_toArray, List.set_cons_zero, List.set_cons_succ]
    refine mix_val (.bool false) (by rfl) (fun _ _ => by rfl) ?_
    simp only [Act.put, List.setIfInBounds_toArray, List.set_cons_zero, List.set_cons_succ]
    refine mix_val (.bool false) (by rfl) (fun _ _ => by rfl) ?_
    simp only [Act.put, List.setIfInBounds_toArray, List.set_cons_zero, List.set_cons_succ]
    refine mix_off (by rfl) ?_
    simp only [Act.put, List.setIfInBounds_toArray, List.set_cons_zero, List.set_cons_succ]
    refine mix_off (by rfl) ?_
    simp only [Act.put, List.setIfInBounds_toArray, List.set_cons_zero, List.set_cons_succ]
    refine mix_off (by rfl) ?_
    simp only [Act.put, List.setIfInBounds_toArray, List.set_cons_zero, List.set_cons_succ]
    refine mix_off (by rfl) ?_
    simp only [Act.put, List.setIfInBounds_toArray, List.set_cons_zero, List.set_cons_succ]
    refine mix_off (by rfl) ?_
    simp only [Act.put, List.setIfInBounds_toArray, List.set_cons_zero, List.set_cons_succ]
    refine mix_val (.bool false) (by rfl) (fun _ _ => by rfl) ?_
    simp only [Act.put, List.setIfInBounds_toArray, List.set_cons_zero, List.set_cons_succ]
    refine mix_val (.bool false) (by rfl) (fun _ _ => by rfl) ?_
    simp only [Act.put, List.setIfInBounds_toArray, List.set_cons_zero, List.set_cons_succ]
    refine mix_off (by rfl) ?_
    simp only [Act.put, List.setIfInBounds_toArray, List.set_cons_zero, List.set_cons_succ]
    refine mix_off (by rfl) ?_
    simp only [Act.put, List.setIfInBounds_toArray, List.set_cons_zero, List.set_cons_succ]
    refine mix_off (by rfl) ?_
    simp only [Act.put, List.setIfInBounds_toArray, List.set_cons_zero, List.set_cons_succ]
    refine mix_val (.bool false) (by rfl) (fun _ _ => by rfl) ?_
    simp only [Act.put, List.setIfInBounds_toArray, List.set_cons_zero, List.set_cons_succ]
    refine mix_val (.bool false) (by rfl) (fun _ _ => by rfl) ?_
    simp only [Act.put, List.setIfInBounds_toArray, List.set_cons_zero, List.set_cons_succ]
    refine mix_off (by rfl) ?_
    simp only [Act.put, List.setIfInBounds_toArray, List.set_cons_zero, List.set_cons_succ]
    refine mix_off (by rfl) ?_
    simp only [Act.put, List.setIfInBounds_toArray, List.set_cons_zero, List.set_cons_succ]
    refine mix_off (by rfl) ?_
    simp only [Act.put, List.setIfInBounds_toArray, List.set_cons_zero, List.set_cons_succ]
    refine mix_val (.bool false) (by rfl) (fun _ _ => by rfl) ?_
    simp only [Act.put, List.setIfInBounds_toArray, List.set_cons_zero, List.set_cons_succ]
    refine mix_store_fact (by rfl) _ _ rfl (w.heap.size + 1) (keepV v) (keepT v t) rfl rfl _ R3.out rfl hone ⟨(setRow_other _ _ _ _ (by omega)).trans F3.out, (setRow_other _ _ _ _ (by omega)).trans G3.out⟩ ?_
    simp only [Act.put]
    refine mix_val (.bool false) (by rfl) (fun _ _ => by rfl) ?_
    simp only [Act.put, List.setIfInBounds_toArray, List.set_cons_zero, List.set_cons_succ]
    refine mix_done ?_
    go_wp2_with fail
    refine bodyPost_ret (results_fact_tmp rfl _ _ (w.heap.size + 1) (keepV v) (keepT v t) _ rfl (setRow_heap _ _ _ _ _ _ R3.out) rfl) rfl ?_
    exact ⟨rfl, below_setRow' (Below.drew (Below.drew (Below.drew (B3.out)))) _ _ (by omega)⟩
  rcases e5 with _ | _
  · refine wp_region_mix (fun w' => w'.heap[w.heap.size]? = some (.cells (factC v t) 40 (0, 0)) ∧ w'.heap[AG]? = some (.cells (factC (keepV v) (keepT v t)) 40 (0, 0))) [true, true, true, true, true, true, true, true, true, true, true, true, true, true, true, true, true, true, true, true, true, true, true, true, true, true, true, true, true, true, true, true, true, true, true, true, true, true, true, true, true, true, true, true, true, true, false, true] (by kernel_rfl) (by kernel_rfl) ⟨F3.out, G3.out⟩ ?_
    refine mix_load_fact (by rfl) _ rfl AG rfl (keepV v) (keepT v t) (fun _ hc => hc.2) ?_
    simp only [Act.put, List.setIfInBounds_toArray, List.set_cons_zero, List.set_cons_succ]
    refine mix_val (.pointer (some ⟨w.heap.size, 1, none⟩)) (by rfl) (fun _ _ => by go_simp) ?_
    simp only [Act.put, List.setIfInBounds_toArray, List.set_cons_zero, List.set_cons_succ]
    refine mix_load_int (by rfl) _ rfl ⟨w.heap.size, 1, none⟩ rfl (.int .i64 (v 1)) (fun _ hc => fact_cell 1 (by decide) hc.1) ?_
    simp only [Act.put, List.setIfInBounds_toArray, List.set_cons_zero, List.set_cons_succ]
    refine mix_call 64 #[.int .i64 (v 1)] (.bool true) (by rfl) (fun _ => by go_simp) H0.out ?_
    simp only [Act.put, List.setIfInBounds_toArray, List.set_cons_zero, List.set_cons_succ]
    refine mix_val (.bool true) (by rfl) (fun _ _ => by rfl) ?_
    simp only [Act.put, List.setIfInBounds_toArray, List.set_cons_zero, List.set_cons_succ]
    refine mix_val (.pointer (some ⟨w.heap.size, 7, none⟩)) (by rfl) (fun _ _ => by go_simp) ?_
    simp only [Act.put, List.setIfInBounds_toArray, List.set_cons_zero, List.set_cons_succ]
    refine mix_load_int (by rfl) _ rfl ⟨w.heap.size, 7, none⟩ rfl (.int .i64 (v 7)) (fun _ hc => fact_cell 7 (by decide) hc.1) ?_
    simp only [Act.put, List.setIfInBounds_toArray, List.set_cons_zero, List.set_cons_succ]
    refine mix_call 64 #[.int .i64 (v 7)] (.bool true) (by rfl) (fun _ => by go_simp) H1.out ?_
    simp only [Act.put, List.setIfInBounds_toArray, List.set_cons_zero, List.set_cons_succ]
    refine mix_val (.bool true) (by rfl) (fun _ _ => by rfl) ?_
    simp only [Act.put, List.setIfInBounds_toArray, List.set_cons_zero, List.set_cons_succ]
    refine mix_val (.bool true) (by rfl) (fun _ _ => by rfl) ?_
    simp only [Act.put, List.setIfInBounds_toArray, List.set_cons_zero, List.set_cons_succ]
    refine mix_val (.pointer (some ⟨w.heap.size, 9, none⟩)) (by rfl) (fun _ _ => by go_simp) ?_
    simp only [Act.put, List.setIfInBounds_toArray, List.set_cons_zero, List.set_cons_succ]
    refine mix_load_int (by rfl) _ rfl ⟨w.heap.size, 9, none⟩ rfl (.int .i64 (v 9)) (fun _ hc => fact_cell 9 (by decide) hc.1) ?_
    simp only [Act.put, List.setIfInBounds_toArray, List.set_cons_zero, List.set_cons_succ]
    refine mix_call 64 #[.int .i64 (v 9)] (.bool true) (by rfl) (fun _ => by go_simp) H2.out ?_
    simp only [Act.put, List.setIfInBounds_toArray, List.set_cons_zero, List.set_cons_succ]
    refine mix_val (.bool true) (by rfl) (fun _ _ => by rfl) ?_
    simp only [Act.put, List.setIfInBounds_toArray, List.set_cons_zero, List.set_cons_succ]
    refine mix_val (.bool true) (by rfl) (fun _ _ => by rfl) ?_
    simp only [Act.put, List.setIfInBounds_toArray, List.set_cons_zero, List.set_cons_succ]
    refine mix_val (.pointer (some ⟨w.heap.size, 10, none⟩)) (by rfl) (fun _ _ => by go_simp) ?_
    simp only [Act.put, List.setIfInBounds_toArray, List.set_cons_zero, List.set_cons_succ]
    refine mix_load_int (by rfl) _ rfl ⟨w.heap.size, 10, none⟩ rfl (.int .i64 (v 10)) (fun _ hc => fact_cell 10 (by decide) hc.1) ?_
    simp only [Act.put, List.setIfInBounds_toArray, List.set_cons_zero, List.set_cons_succ]
    refine mix_call 49 #[.int .i64 (v 10), .int .i64 1, .int .i64 2] (.bool true) (by rfl) (fun _ => by go_simp) H3.out ?_
    simp only [Act.put, List.setIfInBounds_toArray, List.set_cons_zero, List.set_cons_succ]
    refine mix_val (.bool true) (by rfl) (fun _ _ => by rfl) ?_
    simp only [Act.put, List.setIfInBounds_toArray, List.set_cons_zero, List.set_cons_succ]
    refine mix_val (.bool true) (by rfl) (fun _ _ => by rfl) ?_
    simp only [Act.put, List.setIfInBounds_toArray, List.set_cons_zero, List.set_cons_succ]
    refine mix_val (.pointer (some ⟨w.heap.size, 8, none⟩)) (by rfl) (fun _ _ => by go_simp) ?_
    simp only [Act.put, List.setIfInBounds_toArray, List.set_cons_zero, List.set_cons_succ]
    refine mix_load_int (by rfl) _ rfl ⟨w.heap.size, 8, none⟩ rfl (.int .i64 (v 8)) (fun _ hc => fact_cell 8 (by decide) hc.1) ?_
    simp only [Act.put, List.setIfInBounds_toArray, List.set_cons_zero, List.set_cons_succ]
    refine mix_call 49 #[.int .i64 (v 8), .int .i64 1, .int .i64 255] (.bool true) (by rfl) (fun _ => by go_simp) H4.out ?_
    simp only [Act.put, List.setIfInBounds_toArray, List.set_cons_zero, List.set_cons_succ]
    refine mix_val (.bool true) (by rfl) (fun _ _ => by rfl) ?_
    simp only [Act.put, List.setIfInBounds_toArray, List.set_cons_zero, List.set_cons_succ]
    refine mix_val (.bool true) (by rfl) (fun _ _ => by rfl) ?_
    simp only [Act.put, List.setIfInBounds_toArray, List.set_cons_zero, List.set_cons_succ]
    refine mix_val (.pointer (some ⟨w.heap.size, 11, none⟩)) (by rfl) (fun _ _ => by go_simp) ?_
    simp only [Act.put, List.setIfInBounds_toArray, List.set_cons_zero, List.set_cons_succ]
    refine mix_load_int (by rfl) _ rfl ⟨w.heap.size, 11, none⟩ rfl (.int .i64 (v 11)) (fun _ hc => fact_cell 11 (by decide) hc.1) ?_
    simp only [Act.put, List.setIfInBounds_toArray, List.set_cons_zero, List.set_cons_succ]
    refine mix_val (.bool false) (by rfl) (fun _ _ => by go_simp) ?_
    simp only [Act.put, List.setIfInBounds_toArray, List.set_cons_zero, List.set_cons_succ]
    refine mix_val (.bool false) (by rfl) (fun _ _ => by rfl) ?_
    simp only [Act.put, List.setIfInBounds_toArray, List.set_cons_zero, List.set_cons_succ]
    refine mix_val (.bool false) (by rfl) (fun _ _ => by rfl) ?_
    simp only [Act.put, List.setIfInBounds_toArray, List.set_cons_zero, List.set_cons_succ]
    refine mix_off (by rfl) ?_
    simp only [Act.put, List.setIfInBounds_toArray, List.set_cons_zero, List.set_cons_succ]
    refine mix_off (by rfl) ?_
    simp only [Act.put, List.setIfInBounds_toArray, List.set_cons_zero, List.set_cons_succ]
    refine mix_off (by rfl) ?_
    simp only [Act.put, List.setIfInBounds_toArray, List.set_cons_zero, List.set_cons_succ]
    refine mix_off (by rfl) ?_
    simp only [Act.put, List.setIfInBounds_toArray, List.set_cons_zero, List.set_cons_succ]
    refine mix_off (by rfl) ?_
    simp only [Act.put, List.setIfInBounds_toArray, List.set_cons_zero, List.set_cons_succ]
    refine mix_val (.bool false) (by rfl) (fun _ _ => by rfl) ?_
    simp only [Act.put, List.setIfInBounds_toArray, List.set_cons_zero, List.set_cons_succ]
    refine mix_val (.bool false) (by rfl) (fun _ _ => by rfl) ?_
    simp only [Act.put, List.setIfInBounds_toArray, List.set_cons_zero, List.set_cons_succ]
    refine mix_off (by rfl) ?_
    simp only [Act.put, List.setIfInBounds_toArray, List.set_cons_zero, List.set_cons_succ]
    refine mix_off (by rfl) ?_
    simp only [Act.put, List.setIfInBounds_toArray, List.set_cons_zero, List.set_cons_succ]
    refine mix_off (by rfl) ?_
    simp only [Act.put, List.setIfInBounds_toArray, List.set_cons_zero, List.set_cons_succ]
    refine mix_val (.bool false) (by rfl) (fun _ _ => by rfl) ?_
    simp only [Act.put, List.setIfInBounds_toArray, List.set_cons_zero, List.set_cons_succ]
    refine mix_val (.bool false) (by rfl) (fun _ _ => by rfl) ?_
    simp only [Act.put, List.setIfInBounds_toArray, List.set_cons_zero, List.set_cons_succ]
    refine mix_off (by rfl) ?_
    simp only [Act.put, List.setIfInBounds_toArray, List.set_cons_zero, List.set_cons_succ]
    refine mix_off (by rfl) ?_
    simp only [Act.put, List.setIfInBounds_toArray, List.set_cons_zero, List.set_cons_succ]
    refine mix_off (by rfl) ?_
    simp only [Act.put, List.setIfInBounds_toArray, List.set_cons_zero, List.set_cons_succ]
    refine mix_val (.bool false) (by rfl) (fun _ _ => by rfl) ?_
    simp only [Act.put, List.setIfInBounds_toArray, List.set_cons_zero, List.set_cons_succ]
    refine mix_store_fact (by rfl) _ _ rfl (w.heap.size + 1) (keepV v) (keepT v t) rfl rfl _ R3.out rfl hone ⟨(setRow_other _ _ _ _ (by omega)).trans F3.out, (setRow_other _ _ _ _ (by omega)).trans G3.out⟩ ?_
    simp only [Act.put]
    refine mix_val (.bool false) (by rfl) (fun _ _ => by rfl) ?_
    simp only [Act.put, List.setIfInBounds_toArray, List.set_cons_zero, List.set_cons_succ]
    refine mix_done ?_
    go_wp2_with fail
    refine bodyPost_ret (results_fact_tmp rfl _ _ (w.heap.size + 1) (keepV v) (keepT v t) _ rfl (setRow_heap _ _ _ _ _ _ R3.out) rfl) rfl ?_
    exact ⟨rfl, below_setRow' (Below.drew (Below.drew (Below.drew (B3.out)))) _ _ (by omega)⟩
  rcases e6 with _ | _
  · refine wp_region_mix (fun w' => w'.heap[w.heap.size]? = some (.cells (factC v t) 40 (0, 0)) ∧ w'.heap[AG]? = some (.cells (factC (keepV v) (keepT v t)) 40 (0, 0))) [true, true, true, true, true, true, true, true, true, true, true, true, true, true, true, true, true, true, true, true, true, true, true, true, true, true, true, true, true, true, true, true, true, true, true, true, true, true, true, true, true, true, true, true, true, true, false, true] (by kernel_rfl) (by kernel_rfl) ⟨F3.out, G3.out⟩ ?_
    refine mix_load_fact (by rfl) _ rfl AG rfl (keepV v) (keepT v t) (fun _ hc => hc.2) ?_
    simp only [Act.put, List.setIfInBounds_toArray, List.set_cons_zero, List.set_cons_succ]
    refine mix_val (.pointer (some ⟨w.heap.size, 1, none⟩)) (by rfl) (fun _ _ => by go_simp) ?_
    simp only [Act.put, List.setIfInBounds_toArray, List.set_cons_zero, List.set_cons_succ]
    refine mix_load_int (by rfl) _ rfl ⟨w.heap.size, 1, none⟩ rfl (.int .i64 (v 1)) (fun _ hc => fact_cell 1 (by decide) hc.1) ?_
    simp only [Act.put, List.setIfInBounds_toArray, List.set_cons_zero, List.set_cons_succ]
    refine mix_call 64 #[.int .i64 (v 1)] (.bool true) (by rfl) (fun _ => by go_simp) H0.out ?_
    simp only [Act.put, List.setIfInBounds_toArray, List.set_cons_zero, List.set_cons_succ]
    refine mix_val (.bool true) (by rfl) (fun _ _ => by rfl) ?_
    simp only [Act.put, List.setIfInBounds_toArray, List.set_cons_zero, List.set_cons_succ]
    refine mix_val (.pointer (some ⟨w.heap.size, 7, none⟩)) (by rfl) (fun _ _ => by go_simp) ?_
    simp only [Act.put, List.setIfInBounds_toArray, List.set_cons_zero, List.set_cons_succ]
    refine mix_load_int (by rfl) _ rfl ⟨w.heap.size, 7, none⟩ rfl (.int .i64 (v 7)) (fun _ hc => fact_cell 7 (by decide) hc.1) ?_
    simp only [Act.put, List.setIfInBounds_toArray, List.set_cons_zero, List.set_cons_succ]
    refine mix_call 64 #[.int .i64 (v 7)] (.bool true) (by rfl) (fun _ => by go_simp) H1.out ?_
    simp only [Act.put, List.setIfInBounds_toArray, List.set_cons_zero, List.set_cons_succ]
    refine mix_val (.bool true) (by rfl) (fun _ _ => by rfl) ?_
    simp only [Act.put, List.setIfInBounds_toArray, List.set_cons_zero, List.set_cons_succ]
    refine mix_val (.bool true) (by rfl) (fun _ _ => by rfl) ?_
    simp only [Act.put, List.setIfInBounds_toArray, List.set_cons_zero, List.set_cons_succ]
    refine mix_val (.pointer (some ⟨w.heap.size, 9, none⟩)) (by rfl) (fun _ _ => by go_simp) ?_
    simp only [Act.put, List.setIfInBounds_toArray, List.set_cons_zero, List.set_cons_succ]
    refine mix_load_int (by rfl) _ rfl ⟨w.heap.size, 9, none⟩ rfl (.int .i64 (v 9)) (fun _ hc => fact_cell 9 (by decide) hc.1) ?_
    simp only [Act.put, List.setIfInBounds_toArray, List.set_cons_zero, List.set_cons_succ]
    refine mix_call 64 #[.int .i64 (v 9)] (.bool true) (by rfl) (fun _ => by go_simp) H2.out ?_
    simp only [Act.put, List.setIfInBounds_toArray, List.set_cons_zero, List.set_cons_succ]
    refine mix_val (.bool true) (by rfl) (fun _ _ => by rfl) ?_
    simp only [Act.put, List.setIfInBounds_toArray, List.set_cons_zero, List.set_cons_succ]
    refine mix_val (.bool true) (by rfl) (fun _ _ => by rfl) ?_
    simp only [Act.put, List.setIfInBounds_toArray, List.set_cons_zero, List.set_cons_succ]
    refine mix_val (.pointer (some ⟨w.heap.size, 10, none⟩)) (by rfl) (fun _ _ => by go_simp) ?_
    simp only [Act.put, List.setIfInBounds_toArray, List.set_cons_zero, List.set_cons_succ]
    refine mix_load_int (by rfl) _ rfl ⟨w.heap.size, 10, none⟩ rfl (.int .i64 (v 10)) (fun _ hc => fact_cell 10 (by decide) hc.1) ?_
    simp only [Act.put, List.setIfInBounds_toArray, List.set_cons_zero, List.set_cons_succ]
    refine mix_call 49 #[.int .i64 (v 10), .int .i64 1, .int .i64 2] (.bool true) (by rfl) (fun _ => by go_simp) H3.out ?_
    simp only [Act.put, List.setIfInBounds_toArray, List.set_cons_zero, List.set_cons_succ]
    refine mix_val (.bool true) (by rfl) (fun _ _ => by rfl) ?_
    simp only [Act.put, List.setIfInBounds_toArray, List.set_cons_zero, List.set_cons_succ]
    refine mix_val (.bool true) (by rfl) (fun _ _ => by rfl) ?_
    simp only [Act.put, List.setIfInBounds_toArray, List.set_cons_zero, List.set_cons_succ]
    refine mix_val (.pointer (some ⟨w.heap.size, 8, none⟩)) (by rfl) (fun _ _ => by go_simp) ?_
    simp only [Act.put, List.setIfInBounds_toArray, List.set_cons_zero, List.set_cons_succ]
    refine mix_load_int (by rfl) _ rfl ⟨w.heap.size, 8, none⟩ rfl (.int .i64 (v 8)) (fun _ hc => fact_cell 8 (by decide) hc.1) ?_
    simp only [Act.put, List.setIfInBounds_toArray, List.set_cons_zero, List.set_cons_succ]
    refine mix_call 49 #[.int .i64 (v 8), .int .i64 1, .int .i64 255] (.bool true) (by rfl) (fun _ => by go_simp) H4.out ?_
    simp only [Act.put, List.setIfInBounds_toArray, List.set_cons_zero, List.set_cons_succ]
    refine mix_val (.bool true) (by rfl) (fun _ _ => by rfl) ?_
    simp only [Act.put, List.setIfInBounds_toArray, List.set_cons_zero, List.set_cons_succ]
    refine mix_val (.bool true) (by rfl) (fun _ _ => by rfl) ?_
    simp only [Act.put, List.setIfInBounds_toArray, List.set_cons_zero, List.set_cons_succ]
    refine mix_val (.pointer (some ⟨w.heap.size, 11, none⟩)) (by rfl) (fun _ _ => by go_simp) ?_
    simp only [Act.put, List.setIfInBounds_toArray, List.set_cons_zero, List.set_cons_succ]
    refine mix_load_int (by rfl) _ rfl ⟨w.heap.size, 11, none⟩ rfl (.int .i64 (v 11)) (fun _ hc => fact_cell 11 (by decide) hc.1) ?_
    simp only [Act.put, List.setIfInBounds_toArray, List.set_cons_zero, List.set_cons_succ]
    refine mix_val (.bool true) (by rfl) (fun _ _ => by go_simp) ?_
    simp only [Act.put, List.setIfInBounds_toArray, List.set_cons_zero, List.set_cons_succ]
    refine mix_val (.bool true) (by rfl) (fun _ _ => by rfl) ?_
    simp only [Act.put, List.setIfInBounds_toArray, List.set_cons_zero, List.set_cons_succ]
    refine mix_val (.bool true) (by rfl) (fun _ _ => by rfl) ?_
    simp only [Act.put, List.setIfInBounds_toArray, List.set_cons_zero, List.set_cons_succ]
    refine mix_val (.pointer (some ⟨w.heap.size, 11, none⟩)) (by rfl) (fun _ _ => by go_simp) ?_
    simp only [Act.put, List.setIfInBounds_toArray, List.set_cons_zero, List.set_cons_succ]
    refine mix_load_int (by rfl) _ rfl ⟨w.heap.size, 11, none⟩ rfl (.int .i64 (v 11)) (fun _ hc => fact_cell 11 (by decide) hc.1) ?_
    simp only [Act.put, List.setIfInBounds_toArray, List.set_cons_zero, List.set_cons_succ]
    refine mix_val (.pointer (some ⟨w.heap.size, 12, none⟩)) (by rfl) (fun _ _ => by go_simp) ?_
    simp only [Act.put, List.setIfInBounds_toArray, List.set_cons_zero, List.set_cons_succ]
    refine mix_load_int (by rfl) _ rfl ⟨w.heap.size, 12, none⟩ rfl (.int .i64 (v 12)) (fun _ hc => fact_cell 12 (by decide) hc.1) ?_
    simp only [Act.put, List.setIfInBounds_toArray, List.set_cons_zero, List.set_cons_succ]
    refine mix_val (.bool false) (by rfl) (fun _ _ => by go_simp) ?_
    simp only [Act.put, List.setIfInBounds_toArray, List.set_cons_zero, List.set_cons_succ]
    refine mix_val (.bool false) (by rfl) (fun _ _ => by rfl) ?_
    simp only [Act.put, List.setIfInBounds_toArray, List.set_cons_zero, List.set_cons_succ]
    refine mix_val (.bool false) (by rfl) (fun _ _ => by rfl) ?_
    simp only [Act.put, List.setIfInBounds_toArray, List.set_cons_zero, List.set_cons_succ]
    refine mix_off (by rfl) ?_
    simp only [Act.put, List.setIfInBounds_toArray, List.set_cons_zero, List.set_cons_succ]
    refine mix_off (by rfl) ?_
    simp only [Act.put, List.setIfInBounds_toArray, List.set_cons_zero, List.set_cons_succ]
    refine mix_off (by rfl) ?_
    simp only [Act.put, List.setIfInBounds_toArray, List.set_cons_zero, List.set_cons_succ]
    refine mix_val (.bool false) (by rfl) (fun _ _ => by rfl) ?_
    simp only [Act.put, List.setIfInBounds_toArray, List.set_cons_zero, List.set_cons_succ]
    refine mix_val (.bool false) (by rfl) (fun _ _ => by rfl) ?_
    simp only [Act.put, List.setIfInBounds_toArray, List.set_cons_zero, List.set_cons_succ]
    refine mix_off (by rfl) ?_
    simp only [Act.put, List.setIfInBounds_toArray, List.set_cons_zero, List.set_cons_succ]
    refine mix_off (by rfl) ?_
    simp only [Act.put, List.setIfInBounds_toArray, List.set_cons_zero, List.set_cons_succ]
    refine mix_off (by rfl) ?_
    simp only [Act.put, List.setIfInBounds_toArray, List.set_cons_zero, List.set_cons_succ]
    refine mix_val (.bool false) (by rfl) (fun _ _ => by rfl) ?_
    simp only [Act.put, List.setIfInBounds_toArray, List.set_cons_zero, List.set_cons_succ]
    refine mix_store_fact (by rfl) _ _ rfl (w.heap.size + 1) (keepV v) (keepT v t) rfl rfl _ R3.out rfl hone ⟨(setRow_other _ _ _ _ (by omega)).trans F3.out, (setRow_other _ _ _ _ (by omega)).trans G3.out⟩ ?_
    simp only [Act.put]
    refine mix_val (.bool false) (by rfl) (fun _ _ => by rfl) ?_
    simp only [Act.put, List.setIfInBounds_toArray, List.set_cons_zero, List.set_cons_succ]
    refine mix_done ?_
    go_wp2_with fail
    refine bodyPost_ret (results_fact_tmp rfl _ _ (w.heap.size + 1) (keepV v) (keepT v t) _ rfl (setRow_heap _ _ _ _ _ _ R3.out) rfl) rfl ?_
    exact ⟨rfl, below_setRow' (Below.drew (Below.drew (Below.drew (B3.out)))) _ _ (by omega)⟩
  rcases e7 with _ | _
  · refine wp_region_mix (fun w' => w'.heap[w.heap.size]? = some (.cells (factC v t) 40 (0, 0)) ∧ w'.heap[AG]? = some (.cells (factC (keepV v) (keepT v t)) 40 (0, 0))) [true, true, true, true, true, true, true, true, true, true, true, true, true, true, true, true, true, true, true, true, true, true, true, true, true, true, true, true, true, true, true, true, true, true, true, true, true, true, true, true, true, true, true, true, true, true, false, true] (by kernel_rfl) (by kernel_rfl) ⟨F3.out, G3.out⟩ ?_
    refine mix_load_fact (by rfl) _ rfl AG rfl (keepV v) (keepT v t) (fun _ hc => hc.2) ?_
    simp only [Act.put, List.setIfInBounds_toArray, List.set_cons_zero, List.set_cons_succ]
    refine mix_val (.pointer (some ⟨w.heap.size, 1, none⟩)) (by rfl) (fun _ _ => by go_simp) ?_
    simp only [Act.put, List.setIfInBounds_toArray, List.set_cons_zero, List.set_cons_succ]
    refine mix_load_int (by rfl) _ rfl ⟨w.heap.size, 1, none⟩ rfl (.int .i64 (v 1)) (fun _ hc => fact_cell 1 (by decide) hc.1) ?_
    simp only [Act.put, List.setIfInBounds_toArray, List.set_cons_zero, List.set_cons_succ]
    refine mix_call 64 #[.int .i64 (v 1)] (.bool true) (by rfl) (fun _ => by go_simp) H0.out ?_
    simp only [Act.put, List.setIfInBounds_toArray, List.set_cons_zero, List.set_cons_succ]
    refine mix_val (.bool true) (by rfl) (fun _ _ => by rfl) ?_
    simp only [Act.put, List.setIfInBounds_toArray, List.set_cons_zero, List.set_cons_succ]
    refine mix_val (.pointer (some ⟨w.heap.size, 7, none⟩)) (by rfl) (fun _ _ => by go_simp) ?_
    simp only [Act.put, List.setIfInBounds_toArray, List.set_cons_zero, List.set_cons_succ]
    refine mix_load_int (by rfl) _ rfl ⟨w.heap.size, 7, none⟩ rfl (.int .i64 (v 7)) (fun _ hc => fact_cell 7 (by decide) hc.1) ?_
    simp only [Act.put, List.setIfInBounds_toArray, List.set_cons_zero, List.set_cons_succ]
    refine mix_call 64 #[.int .i64 (v 7)] (.bool true) (by rfl) (fun _ => by go_simp) H1.out ?_
    simp only [Act.put, List.setIfInBounds_toArray, List.set_cons_zero, List.set_cons_succ]
    refine mix_val (.bool true) (by rfl) (fun _ _ => by rfl) ?_
    simp only [Act.put, List.setIfInBounds_toArray, List.set_cons_zero, List.set_cons_succ]
    refine mix_val (.bool true) (by rfl) (fun _ _ => by rfl) ?_
    simp only [Act.put, List.setIfInBounds_toArray, List.set_cons_zero, List.set_cons_succ]
    refine mix_val (.pointer (some ⟨w.heap.size, 9, none⟩)) (by rfl) (fun _ _ => by go_simp) ?_
    simp only [Act.put, List.setIfInBounds_toArray, List.set_cons_zero, List.set_cons_succ]
    refine mix_load_int (by rfl) _ rfl ⟨w.heap.size, 9, none⟩ rfl (.int .i64 (v 9)) (fun _ hc => fact_cell 9 (by decide) hc.1) ?_
    simp only [Act.put, List.setIfInBounds_toArray, List.set_cons_zero, List.set_cons_succ]
    refine mix_call 64 #[.int .i64 (v 9)] (.bool true) (by rfl) (fun _ => by go_simp) H2.out ?_
    simp only [Act.put, List.setIfInBounds_toArray, List.set_cons_zero, List.set_cons_succ]
    refine mix_val (.bool true) (by rfl) (fun _ _ => by rfl) ?_
    simp only [Act.put, List.setIfInBounds_toArray, List.set_cons_zero, List.set_cons_succ]
    refine mix_val (.bool true) (by rfl) (fun _ _ => by rfl) ?_
    simp only [Act.put, List.setIfInBounds_toArray, List.set_cons_zero, List.set_cons_succ]
    refine mix_val (.pointer (some ⟨w.heap.size, 10, none⟩)) (by rfl) (fun _ _ => by go_simp) ?_
    simp only [Act.put, List.setIfInBounds_toArray, List.set_cons_zero, List.set_cons_succ]
    refine mix_load_int (by rfl) _ rfl ⟨w.heap.size, 10, none⟩ rfl (.int .i64 (v 10)) (fun _ hc => fact_cell 10 (by decide) hc.1) ?_
    simp only [Act.put, List.setIfInBounds_toArray, List.set_cons_zero, List.set_cons_succ]
    refine mix_call 49 #[.int .i64 (v 10), .int .i64 1, .int .i64 2] (.bool true) (by rfl) (fun _ => by go_simp) H3.out ?_
    simp only [Act.put, List.setIfInBounds_toArray, List.set_cons_zero, List.set_cons_succ]
    refine mix_val (.bool true) (by rfl) (fun _ _ => by rfl) ?_
    simp only [Act.put, List.setIfInBounds_toArray, List.set_cons_zero, List.set_cons_succ]
    refine mix_val (.bool true) (by rfl) (fun _ _ => by rfl) ?_
    simp only [Act.put, List.setIfInBounds_toArray, List.set_cons_zero, List.set_cons_succ]
    refine mix_val (.pointer (some ⟨w.heap.size, 8, none⟩)) (by rfl) (fun _ _ => by go_simp) ?_
    simp only [Act.put, List.setIfInBounds_toArray, List.set_cons_zero, List.set_cons_succ]
    refine mix_load_int (by rfl) _ rfl ⟨w.heap.size, 8, none⟩ rfl (.int .i64 (v 8)) (fun _ hc => fact_cell 8 (by decide) hc.1) ?_
    simp only [Act.put, List.setIfInBounds_toArray, List.set_cons_zero, List.set_cons_succ]
    refine mix_call 49 #[.int .i64 (v 8), .int .i64 1, .int .i64 255] (.bool true) (by rfl) (fun _ => by go_simp) H4.out ?_
    simp only [Act.put, List.setIfInBounds_toArray, List.set_cons_zero, List.set_cons_succ]
    refine mix_val (.bool true) (by rfl) (fun _ _ => by rfl) ?_
    simp only [Act.put, List.setIfInBounds_toArray, List.set_cons_zero, List.set_cons_succ]
    refine mix_val (.bool true) (by rfl) (fun _ _ => by rfl) ?_
    simp only [Act.put, List.setIfInBounds_toArray, List.set_cons_zero, List.set_cons_succ]
    refine mix_val (.pointer (some ⟨w.heap.size, 11, none⟩)) (by rfl) (fun _ _ => by go_simp) ?_
    simp only [Act.put, List.setIfInBounds_toArray, List.set_cons_zero, List.set_cons_succ]
    refine mix_load_int (by rfl) _ rfl ⟨w.heap.size, 11, none⟩ rfl (.int .i64 (v 11)) (fun _ hc => fact_cell 11 (by decide) hc.1) ?_
    simp only [Act.put, List.setIfInBounds_toArray, List.set_cons_zero, List.set_cons_succ]
    refine mix_val (.bool true) (by rfl) (fun _ _ => by go_simp) ?_
    simp only [Act.put, List.setIfInBounds_toArray, List.set_cons_zero, List.set_cons_succ]
    refine mix_val (.bool true) (by rfl) (fun _ _ => by rfl) ?_
    simp only [Act.put, List.setIfInBounds_toArray, List.set_cons_zero, List.set_cons_succ]
    refine mix_val (.bool true) (by rfl) (fun _ _ => by rfl) ?_
    simp only [Act.put, List.setIfInBounds_toArray, List.set_cons_zero, List.set_cons_succ]
    refine mix_val (.pointer (some ⟨w.heap.size, 11, none⟩)) (by rfl) (fun _ _ => by go_simp) ?_
    simp only [Act.put, List.setIfInBounds_toArray, List.set_cons_zero, List.set_cons_succ]
    refine mix_load_int (by rfl) _ rfl ⟨w.heap.size, 11, none⟩ rfl (.int .i64 (v 11)) (fun _ hc => fact_cell 11 (by decide) hc.1) ?_
    simp only [Act.put, List.setIfInBounds_toArray, List.set_cons_zero, List.set_cons_succ]
    refine mix_val (.pointer (some ⟨w.heap.size, 12, none⟩)) (by rfl) (fun _ _ => by go_simp) ?_
    simp only [Act.put, List.setIfInBounds_toArray, List.set_cons_zero, List.set_cons_succ]
    refine mix_load_int (by rfl) _ rfl ⟨w.heap.size, 12, none⟩ rfl (.int .i64 (v 12)) (fun _ hc => fact_cell 12 (by decide) hc.1) ?_
    simp only [Act.put, List.setIfInBounds_toArray, List.set_cons_zero, List.set_cons_succ]
    refine mix_val (.bool true) (by rfl) (fun _ _ => by go_simp) ?_
    simp only [Act.put, List.setIfInBounds_toArray, List.set_cons_zero, List.set_cons_succ]
    refine mix_val (.bool true) (by rfl) (fun _ _ => by rfl) ?_
    simp only [Act.put, List.setIfInBounds_toArray, List.set_cons_zero, List.set_cons_succ]
    refine mix_val (.bool true) (by rfl) (fun _ _ => by rfl) ?_
    simp only [Act.put, List.setIfInBounds_toArray, List.set_cons_zero, List.set_cons_succ]
    refine mix_val (.pointer (some ⟨w.heap.size, 12, none⟩)) (by rfl) (fun _ _ => by go_simp) ?_
    simp only [Act.put, List.setIfInBounds_toArray, List.set_cons_zero, List.set_cons_succ]
    refine mix_load_int (by rfl) _ rfl ⟨w.heap.size, 12, none⟩ rfl (.int .i64 (v 12)) (fun _ hc => fact_cell 12 (by decide) hc.1) ?_
    simp only [Act.put, List.setIfInBounds_toArray, List.set_cons_zero, List.set_cons_succ]
    refine mix_val (.bool false) (by rfl) (fun _ _ => by go_simp) ?_
    simp only [Act.put, List.setIfInBounds_toArray, List.set_cons_zero, List.set_cons_succ]
    refine mix_val (.bool false) (by rfl) (fun _ _ => by rfl) ?_
    simp only [Act.put, List.setIfInBounds_toArray, List.set_cons_zero, List.set_cons_succ]
    refine mix_val (.bool false) (by rfl) (fun _ _ => by rfl) ?_
    simp only [Act.put, List.setIfInBounds_toArray, List.set_cons_zero, List.set_cons_succ]
    refine mix_off (by rfl) ?_
    simp only [Act.put, List.setIfInBounds_toArray, List.set_cons_zero, List.set_cons_succ]
    refine mix_off (by rfl) ?_
    simp only [Act.put, List.setIfInBounds_toArray, List.set_cons_zero, List.set_cons_succ]
    refine mix_off (by rfl) ?_
    simp only [Act.put, List.setIfInBounds_toArray, List.set_cons_zero, List.set_cons_succ]
    refine mix_val (.bool false) (by rfl) (fun _ _ => by rfl) ?_
    simp only [Act.put, List.setIfInBounds_toArray, List.set_cons_zero, List.set_cons_succ]
    refine mix_store_fact (by rfl) _ _ rfl (w.heap.size + 1) (keepV v) (keepT v t) rfl rfl _ R3.out rfl hone ⟨(setRow_other _ _ _ _ (by omega)).trans F3.out, (setRow_other _ _ _ _ (by omega)).trans G3.out⟩ ?_
    simp only [Act.put]
    refine mix_val (.bool false) (by rfl) (fun _ _ => by rfl) ?_
    simp only [Act.put, List.setIfInBounds_toArray, List.set_cons_zero, List.set_cons_succ]
    refine mix_done ?_
    go_wp2_with fail
    refine bodyPost_ret (results_fact_tmp rfl _ _ (w.heap.size + 1) (keepV v) (keepT v t) _ rfl (setRow_heap _ _ _ _ _ _ R3.out) rfl) rfl ?_
    exact ⟨rfl, below_setRow' (Below.drew (Below.drew (Below.drew (B3.out)))) _ _ (by omega)⟩
  rcases e8 with _ | _
  · refine wp_region_mix (fun w' => w'.heap[w.heap.size]? = some (.cells (factC v t) 40 (0, 0)) ∧ w'.heap[AG]? = some (.cells (factC (keepV v) (keepT v t)) 40 (0, 0))) [true, true, true, true, true, true, true, true, true, true, true, true, true, true, true, true, true, true, true, true, true, true, true, true, true, true, true, true, true, true, true, true, true, true, true, true, true, true, true, true, true, true, true, true, true, true, false, true] (by kernel_rfl) (by kernel_rfl) ⟨F3.out, G3.out⟩ ?_
    refine mix_load_fact (by rfl) _ rfl AG rfl (keepV v) (keepT v t) (fun _ hc => hc.2) ?_
    simp only [Act.put, List.setIfInBounds_toArray, List.set_cons_zero, List.set_cons_succ]
    refine mix_val (.pointer (some ⟨w.heap.size, 1, none⟩)) (by rfl) (fun _ _ => by go_simp) ?_
    simp only [Act.put, List.setIfInBounds_toArray, List.set_cons_zero, List.set_cons_succ]
    refine mix_load_int (by rfl) _ rfl ⟨w.heap.size, 1, none⟩ rfl (.int .i64 (v 1)) (fun _ hc => fact_cell 1 (by decide) hc.1) ?_
    simp only [Act.put, List.setIfInBounds_toArray, List.set_cons_zero, List.set_cons_succ]
    refine mix_call 64 #[.int .i64 (v 1)] (.bool true) (by rfl) (fun _ => by go_simp) H0.out ?_
    simp only [Act.put, List.setIfInBounds_toArray, List.set_cons_zero, List.set_cons_succ]
    refine mix_val (.bool true) (by rfl) (fun _ _ => by rfl) ?_
    simp only [Act.put, List.setIfInBounds_toArray, List.set_cons_zero, List.set_cons_succ]
    refine mix_val (.pointer (some ⟨w.heap.size, 7, none⟩)) (by rfl) (fun _ _ => by go_simp) ?_
    simp only [Act.put, List.setIfInBounds_toArray, List.set_cons_zero, List.set_cons_succ]
    refine mix_load_int (by rfl) _ rfl ⟨w.heap.size, 7, none⟩ rfl (.int .i64 (v 7)) (fun _ hc => fact_cell 7 (by decide) hc.1) ?_
    simp only [Act.put, List.setIfInBounds_toArray, List.set_cons_zero, List.set_cons_succ]
    refine mix_call 64 #[.int .i64 (v 7)] (.bool true) (by rfl) (fun _ => by go_simp) H1.out ?_
    simp only [Act.put, List.setIfInBounds_toArray, List.set_cons_zero, List.set_cons_succ]
    refine mix_val (.bool true) (by rfl) (fun _ _ => by rfl) ?_
    simp only [Act.put, List.setIfInBounds_toArray, List.set_cons_zero, List.set_cons_succ]
    refine mix_val (.bool true) (by rfl) (fun _ _ => by rfl) ?_
    simp only [Act.put, List.setIfInBounds_toArray, List.set_cons_zero, List.set_cons_succ]
    refine mix_val (.pointer (some ⟨w.heap.size, 9, none⟩)) (by rfl) (fun _ _ => by go_simp) ?_
    simp only [Act.put, List.setIfInBounds_toArray, List.set_cons_zero, List.set_cons_succ]
    refine mix_load_int (by rfl) _ rfl ⟨w.heap.size, 9, none⟩ rfl (.int .i64 (v 9)) (fun _ hc => fact_cell 9 (by decide) hc.1) ?_
    simp only [Act.put, List.setIfInBounds_toArray, List.set_cons_zero, List.set_cons_succ]
    refine mix_call 64 #[.int .i64 (v 9)] (.bool true) (by rfl) (fun _ => by go_simp) H2.out ?_
    simp only [Act.put, List.setIfInBounds_toArray, List.set_cons_zero, List.set_cons_succ]
    refine mix_val (.bool true) (by rfl) (fun _ _ => by rfl) ?_
    simp only [Act.put, List.setIfInBounds_toArray, List.set_cons_zero, List.set_cons_succ]
    refine mix_val (.bool true) (by rfl) (fun _ _ => by rfl) ?_
    simp only [Act.put, List.setIfInBounds_toArray, List.set_cons_zero, List.set_cons_succ]
    refine mix_val (.pointer (some ⟨w.heap.size, 10, none⟩)) (by rfl) (fun _ _ => by go_simp) ?_
    simp only [Act.put, List.setIfInBounds_toArray, List.set_cons_zero, List.set_cons_succ]
    refine mix_load_int (by rfl) _ rfl ⟨w.heap.size, 10, none⟩ rfl (.int .i64 (v 10)) (fun _ hc => fact_cell 10 (by decide) hc.1) ?_
    simp only [Act.put, List.setIfInBounds_toArray, List.set_cons_zero, List.set_cons_succ]
    refine mix_call 49 #[.int .i64 (v 10), .int .i64 1, .int .i64 2] (.bool true) (by rfl) (fun _ => by go_simp) H3.out ?_
    simp only [Act.put, List.setIfInBounds_toArray, List.set_cons_zero, List.set_cons_succ]
    refine mix_val (.bool true) (by rfl) (fun _ _ => by rfl) ?_
    simp only [Act.put, List.setIfInBounds_toArray, List.set_cons_zero, List.set_cons_succ]
    refine mix_val (.bool true) (by rfl) (fun _ _ => by rfl) ?_
    simp only [Act.put, List.setIfInBounds_toArray, List.set_cons_zero, List.set_cons_succ]
    refine mix_val (.pointer (some ⟨w.heap.size, 8, none⟩)) (by rfl) (fun _ _ => by go_simp) ?_
    simp only [Act.put, List.setIfInBounds_toArray, List.set_cons_zero, List.set_cons_succ]
    refine mix_load_int (by rfl) _ rfl ⟨w.heap.size, 8, none⟩ rfl (.int .i64 (v 8)) (fun _ hc => fact_cell 8 (by decide) hc.1) ?_
    simp only [Act.put, List.setIfInBounds_toArray, List.set_cons_zero, List.set_cons_succ]
    refine mix_call 49 #[.int .i64 (v 8), .int .i64 1, .int .i64 255] (.bool true) (by rfl) (fun _ => by go_simp) H4.out ?_
    simp only [Act.put, List.setIfInBounds_toArray, List.set_cons_zero, List.set_cons_succ]
    refine mix_val (.bool true) (by rfl) (fun _ _ => by rfl) ?_
    simp only [Act.put, List.setIfInBounds_toArray, List.set_cons_zero, List.set_cons_succ]
    refine mix_val (.bool true) (by rfl) (fun _ _ => by rfl) ?_
    simp only [Act.put, List.setIfInBounds_toArray, List.set_cons_zero, List.set_cons_succ]
    refine mix_val (.pointer (some ⟨w.heap.size, 11, none⟩)) (by rfl) (fun _ _ => by go_simp) ?_
    simp only [Act.put, List.setIfInBounds_toArray, List.set_cons_zero, List.set_cons_succ]
    refine mix_load_int (by rfl) _ rfl ⟨w.heap.size, 11, none⟩ rfl (.int .i64 (v 11)) (fun _ hc => fact_cell 11 (by decide) hc.1) ?_
    simp only [Act.put, List.setIfInBounds_toArray, List.set_cons_zero, List.set_cons_succ]
    refine mix_val (.bool true) (by rfl) (fun _ _ => by go_simp) ?_
    simp only [Act.put, List.setIfInBounds_toArray, List.set_cons_zero, List.set_cons_succ]
    refine mix_val (.bool true) (by rfl) (fun _ _ => by rfl) ?_
    simp only [Act.put, List.setIfInBounds_toArray, List.set_cons_zero, List.set_cons_succ]
    refine mix_val (.bool true) (by rfl) (fun _ _ => by rfl) ?_
    simp only [Act.put, List.setIfInBounds_toArray, List.set_cons_zero, List.set_cons_succ]
    refine mix_val (.pointer (some ⟨w.heap.size, 11, none⟩)) (by rfl) (fun _ _ => by go_simp) ?_
    simp only [Act.put, List.setIfInBounds_toArray, List.set_cons_zero, List.set_cons_succ]
    refine mix_load_int (by rfl) _ rfl ⟨w.heap.size, 11, none⟩ rfl (.int .i64 (v 11)) (fun _ hc => fact_cell 11 (by decide) hc.1) ?_
    simp only [Act.put, List.setIfInBounds_toArray, List.set_cons_zero, List.set_cons_succ]
    refine mix_val (.pointer (some ⟨w.heap.size, 12, none⟩)) (by rfl) (fun _ _ => by go_simp) ?_
    simp only [Act.put, List.setIfInBounds_toArray, List.set_cons_zero, List.set_cons_succ]
    refine mix_load_int (by rfl) _ rfl ⟨w.heap.size, 12, none⟩ rfl (.int .i64 (v 12)) (fun _ hc => fact_cell 12 (by decide) hc.1) ?_
    simp only [Act.put, List.setIfInBounds_toArray, List.set_cons_zero, List.set_cons_succ]
    refine mix_val (.bool true) (by rfl) (fun _ _ => by go_simp) ?_
    simp only [Act.put, List.setIfInBounds_toArray, List.set_cons_zero, List.set_cons_succ]
    refine mix_val (.bool true) (by rfl) (fun _ _ => by rfl) ?_
    simp only [Act.put, List.setIfInBounds_toArray, List.set_cons_zero, List.set_cons_succ]
    refine mix_val (.bool true) (by rfl) (fun _ _ => by rfl) ?_
    simp only [Act.put, List.setIfInBounds_toArray, List.set_cons_zero, List.set_cons_succ]
    refine mix_val (.pointer (some ⟨w.heap.size, 12, none⟩)) (by rfl) (fun _ _ => by go_simp) ?_
    simp only [Act.put, List.setIfInBounds_toArray, List.set_cons_zero, List.set_cons_succ]
    refine mix_load_int (by rfl) _ rfl ⟨w.heap.size, 12, none⟩ rfl (.int .i64 (v 12)) (fun _ hc => fact_cell 12 (by decide) hc.1) ?_
    simp only [Act.put, List.setIfInBounds_toArray, List.set_cons_zero, List.set_cons_succ]
    refine mix_val (.bool true) (by rfl) (fun _ _ => by go_simp) ?_
    simp only [Act.put, List.setIfInBounds_toArray, List.set_cons_zero, List.set_cons_succ]
    refine mix_val (.bool true) (by rfl) (fun _ _ => by rfl) ?_
    simp only [Act.put, List.setIfInBounds_toArray, List.set_cons_zero, List.set_cons_succ]
    refine mix_val (.bool true) (by rfl) (fun _ _ => by rfl) ?_
    simp only [Act.put, List.setIfInBounds_toArray, List.set_cons_zero, List.set_cons_succ]
    refine mix_val (.pointer (some ⟨w.heap.size, 14, none⟩)) (by rfl) (fun _ _ => by go_simp) ?_
    simp only [Act.put, List.setIfInBounds_toArray, List.set_cons_zero, List.set_cons_succ]
    refine mix_load_int (by rfl) _ rfl ⟨w.heap.size, 14, none⟩ rfl (.int .i64 (v 14)) (fun _ hc => fact_cell 14 (by decide) hc.1) ?_
    simp only [Act.put, List.setIfInBounds_toArray, List.set_cons_zero, List.set_cons_succ]
    refine mix_call 49 #[.int .i64 (v 14), .int .i64 0, .int .i64 1000000] (.bool false) (by rfl) (fun _ => by go_simp) H8.out ?_
    simp only [Act.put, List.setIfInBounds_toArray, List.set_cons_zero, List.set_cons_succ]
    refine mix_val (.bool false) (by rfl) (fun _ _ => by rfl) ?_
    simp only [Act.put, List.setIfInBounds_toArray, List.set_cons_zero, List.set_cons_succ]
    refine mix_store_fact (by rfl) _ _ rfl (w.heap.size + 1) (keepV v) (keepT v t) rfl rfl _ R3.out rfl hone ⟨(setRow_other _ _ _ _ (by omega)).trans F3.out, (setRow_other _ _ _ _ (by omega)).trans G3.out⟩ ?_
    simp only [Act.put]
    refine mix_val (.bool false) (by rfl) (fun _ _ => by rfl) ?_
    simp only [Act.put, List.setIfInBounds_toArray, List.set_cons_zero, List.set_cons_succ]
    refine mix_done ?_
    go_wp2_with fail
    refine bodyPost_ret (results_fact_tmp rfl _ _ (w.heap.size + 1) (keepV v) (keepT v t) _ rfl (setRow_heap _ _ _ _ _ _ R3.out) rfl) rfl ?_
    exact ⟨rfl, below_setRow' (Below.drew (Below.drew (Below.drew (B3.out)))) _ _ (by omega)⟩
  refine wp_region_mix (fun w' => w'.heap[w.heap.size]? = some (.cells (factC v t) 40 (0, 0)) ∧ w'.heap[AG]? = some (.cells (factC (keepV v) (keepT v t)) 40 (0, 0))) [true, true, true, true, true, true, true, true, true, true, true, true, true, true, true, true, true, true, true, true, true, true, true, true, true, true, true, true, true, true, true, true, true, true, true, true, true, true, true, true, true, true, true, true, true, true, false, true] (by kernel_rfl) (by kernel_rfl) ⟨F3.out, G3.out⟩ ?_
  refine mix_load_fact (by rfl) _ rfl AG rfl (keepV v) (keepT v t) (fun _ hc => hc.2) ?_
  simp only [Act.put, List.setIfInBounds_toArray, List.set_cons_zero, List.set_cons_succ]
  refine mix_val (.pointer (some ⟨w.heap.size, 1, none⟩)) (by rfl) (fun _ _ => by go_simp) ?_
  simp only [Act.put, List.setIfInBounds_toArray, List.set_cons_zero, List.set_cons_succ]
  refine mix_load_int (by rfl) _ rfl ⟨w.heap.size, 1, none⟩ rfl (.int .i64 (v 1)) (fun _ hc => fact_cell 1 (by decide) hc.1) ?_
  simp only [Act.put, List.setIfInBounds_toArray, List.set_cons_zero, List.set_cons_succ]
  refine mix_call 64 #[.int .i64 (v 1)] (.bool true) (by rfl) (fun _ => by go_simp) H0.out ?_
  simp only [Act.put, List.setIfInBounds_toArray, List.set_cons_zero, List.set_cons_succ]
  refine mix_val (.bool true) (by rfl) (fun _ _ => by rfl) ?_
  simp only [Act.put, List.setIfInBounds_toArray, List.set_cons_zero, List.set_cons_succ]
  refine mix_val (.pointer (some ⟨w.heap.size, 7, none⟩)) (by rfl) (fun _ _ => by go_simp) ?_
  simp only [Act.put, List.setIfInBounds_toArray, List.set_cons_zero, List.set_cons_succ]
  refine mix_load_int (by rfl) _ rfl ⟨w.heap.size, 7, none⟩ rfl (.int .i64 (v 7)) (fun _ hc => fact_cell 7 (by decide) hc.1) ?_
  simp only [Act.put, List.setIfInBounds_toArray, List.set_cons_zero, List.set_cons_succ]
  refine mix_call 64 #[.int .i64 (v 7)] (.bool true) (by rfl) (fun _ => by go_simp) H1.out ?_
  simp only [Act.put, List.setIfInBounds_toArray, List.set_cons_zero, List.set_cons_succ]
  refine mix_val (.bool true) (by rfl) (fun _ _ => by rfl) ?_
  simp only [Act.put, List.setIfInBounds_toArray, List.set_cons_zero, List.set_cons_succ]
  refine mix_val (.bool true) (by rfl) (fun _ _ => by rfl) ?_
  simp only [Act.put, List.setIfInBounds_toArray, List.set_cons_zero, List.set_cons_succ]
  refine mix_val (.pointer (some ⟨w.heap.size, 9, none⟩)) (by rfl) (fun _ _ => by go_simp) ?_
  simp only [Act.put, List.setIfInBounds_toArray, List.set_cons_zero, List.set_cons_succ]
  refine mix_load_int (by rfl) _ rfl ⟨w.heap.size, 9, none⟩ rfl (.int .i64 (v 9)) (fun _ hc => fact_cell 9 (by decide) hc.1) ?_
  simp only [Act.put, List.setIfInBounds_toArray, List.set_cons_zero, List.set_cons_succ]
  refine mix_call 64 #[.int .i64 (v 9)] (.bool true) (by rfl) (fun _ => by go_simp) H2.out ?_
  simp only [Act.put, List.setIfInBounds_toArray, List.set_cons_zero, List.set_cons_succ]
  refine mix_val (.bool true) (by rfl) (fun _ _ => by rfl) ?_
  simp only [Act.put, List.setIfInBounds_toArray, List.set_cons_zero, List.set_cons_succ]
  refine mix_val (.bool true) (by rfl) (fun _ _ => by rfl) ?_
  simp only [Act.put, List.setIfInBounds_toArray, List.set_cons_zero, List.set_cons_succ]
  refine mix_val (.pointer (some ⟨w.heap.size, 10, none⟩)) (by rfl) (fun _ _ => by go_simp) ?_
  simp only [Act.put, List.setIfInBounds_toArray, List.set_cons_zero, List.set_cons_succ]
  refine mix_load_int (by rfl) _ rfl ⟨w.heap.size, 10, none⟩ rfl (.int .i64 (v 10)) (fun _ hc => fact_cell 10 (by decide) hc.1) ?_
  simp only [Act.put, List.setIfInBounds_toArray, List.set_cons_zero, List.set_cons_succ]
  refine mix_call 49 #[.int .i64 (v 10), .int .i64 1, .int .i64 2] (.bool true) (by rfl) (fun _ => by go_simp) H3.out ?_
  simp only [Act.put, List.setIfInBounds_toArray, List.set_cons_zero, List.set_cons_succ]
  refine mix_val (.bool true) (by rfl) (fun _ _ => by rfl) ?_
  simp only [Act.put, List.setIfInBounds_toArray, List.set_cons_zero, List.set_cons_succ]
  refine mix_val (.bool true) (by rfl) (fun _ _ => by rfl) ?_
  simp only [Act.put, List.setIfInBounds_toArray, List.set_cons_zero, List.set_cons_succ]
  refine mix_val (.pointer (some ⟨w.heap.size, 8, none⟩)) (by rfl) (fun _ _ => by go_simp) ?_
  simp only [Act.put, List.setIfInBounds_toArray, List.set_cons_zero, List.set_cons_succ]
  refine mix_load_int (by rfl) _ rfl ⟨w.heap.size, 8, none⟩ rfl (.int .i64 (v 8)) (fun _ hc => fact_cell 8 (by decide) hc.1) ?_
  simp only [Act.put, List.setIfInBounds_toArray, List.set_cons_zero, List.set_cons_succ]
  refine mix_call 49 #[.int .i64 (v 8), .int .i64 1, .int .i64 255] (.bool true) (by rfl) (fun _ => by go_simp) H4.out ?_
  simp only [Act.put, List.setIfInBounds_toArray, List.set_cons_zero, List.set_cons_succ]
  refine mix_val (.bool true) (by rfl) (fun _ _ => by rfl) ?_
  simp only [Act.put, List.setIfInBounds_toArray, List.set_cons_zero, List.set_cons_succ]
  refine mix_val (.bool true) (by rfl) (fun _ _ => by rfl) ?_
  simp only [Act.put, List.setIfInBounds_toArray, List.set_cons_zero, List.set_cons_succ]
  refine mix_val (.pointer (some ⟨w.heap.size, 11, none⟩)) (by rfl) (fun _ _ => by go_simp) ?_
  simp only [Act.put, List.setIfInBounds_toArray, List.set_cons_zero, List.set_cons_succ]
  refine mix_load_int (by rfl) _ rfl ⟨w.heap.size, 11, none⟩ rfl (.int .i64 (v 11)) (fun _ hc => fact_cell 11 (by decide) hc.1) ?_
  simp only [Act.put, List.setIfInBounds_toArray, List.set_cons_zero, List.set_cons_succ]
  refine mix_val (.bool true) (by rfl) (fun _ _ => by go_simp) ?_
  simp only [Act.put, List.setIfInBounds_toArray, List.set_cons_zero, List.set_cons_succ]
  refine mix_val (.bool true) (by rfl) (fun _ _ => by rfl) ?_
  simp only [Act.put, List.setIfInBounds_toArray, List.set_cons_zero, List.set_cons_succ]
  refine mix_val (.bool true) (by rfl) (fun _ _ => by rfl) ?_
  simp only [Act.put, List.setIfInBounds_toArray, List.set_cons_zero, List.set_cons_succ]
  refine mix_val (.pointer (some ⟨w.heap.size, 11, none⟩)) (by rfl) (fun _ _ => by go_simp) ?_
  simp only [Act.put, List.setIfInBounds_toArray, List.set_cons_zero, List.set_cons_succ]
  refine mix_load_int (by rfl) _ rfl ⟨w.heap.size, 11, none⟩ rfl (.int .i64 (v 11)) (fun _ hc => fact_cell 11 (by decide) hc.1) ?_
  simp only [Act.put, List.setIfInBounds_toArray, List.set_cons_zero, List.set_cons_succ]
  refine mix_val (.pointer (some ⟨w.heap.size, 12, none⟩)) (by rfl) (fun _ _ => by go_simp) ?_
  simp only [Act.put, List.setIfInBounds_toArray, List.set_cons_zero, List.set_cons_succ]
  refine mix_load_int (by rfl) _ rfl ⟨w.heap.size, 12, none⟩ rfl (.int .i64 (v 12)) (fun _ hc => fact_cell 12 (by decide) hc.1) ?_
  simp only [Act.put, List.setIfInBounds_toArray, List.set_cons_zero, List.set_cons_succ]
  refine mix_val (.bool true) (by rfl) (fun _ _ => by go_simp) ?_
  simp only [Act.put, List.setIfInBounds_toArray, List.set_cons_zero, List.set_cons_succ]
  refine mix_val (.bool true) (by rfl) (fun _ _ => by rfl) ?_
  simp only [Act.put, List.setIfInBounds_toArray, List.set_cons_zero, List.set_cons_succ]
  refine mix_val (.bool true) (by rfl) (fun _ _ => by rfl) ?_
  simp only [Act.put, List.setIfInBounds_toArray, List.set_cons_zero, List.set_cons_succ]
  refine mix_val (.pointer (some ⟨w.heap.size, 12, none⟩)) (by rfl) (fun _ _ => by go_simp) ?_
  simp only [Act.put, List.setIfInBounds_toArray, List.set_cons_zero, List.set_cons_succ]
  refine mix_load_int (by rfl) _ rfl ⟨w.heap.size, 12, none⟩ rfl (.int .i64 (v 12)) (fun _ hc => fact_cell 12 (by decide) hc.1) ?_
  simp only [Act.put, List.setIfInBounds_toArray, List.set_cons_zero, List.set_cons_succ]
  refine mix_val (.bool true) (by rfl) (fun _ _ => by go_simp) ?_
  simp only [Act.put, List.setIfInBounds_toArray, List.set_cons_zero, List.set_cons_succ]
  refine mix_val (.bool true) (by rfl) (fun _ _ => by rfl) ?_
  simp only [Act.put, List.setIfInBounds_toArray, List.set_cons_zero, List.set_cons_succ]
  refine mix_val (.bool true) (by rfl) (fun _ _ => by rfl) ?_
  simp only [Act.put, List.setIfInBounds_toArray, List.set_cons_zero, List.set_cons_succ]
  refine mix_val (.pointer (some ⟨w.heap.size, 14, none⟩)) (by rfl) (fun _ _ => by go_simp) ?_
  simp only [Act.put, List.setIfInBounds_toArray, List.set_cons_zero, List.set_cons_succ]
  refine mix_load_int (by rfl) _ rfl ⟨w.heap.size, 14, none⟩ rfl (.int .i64 (v 14)) (fun _ hc => fact_cell 14 (by decide) hc.1) ?_
  simp only [Act.put, List.setIfInBounds_toArray, List.set_cons_zero, List.set_cons_succ]
  refine mix_call 49 #[.int .i64 (v 14), .int .i64 0, .int .i64 1000000] (.bool true) (by rfl) (fun _ => by go_simp) H8.out ?_
  simp only [Act.put, List.setIfInBounds_toArray, List.set_cons_zero, List.set_cons_succ]
  refine mix_val (.bool true) (by rfl) (fun _ _ => by rfl) ?_
  simp only [Act.put, List.setIfInBounds_toArray, List.set_cons_zero, List.set_cons_succ]
  refine mix_store_fact (by rfl) _ _ rfl (w.heap.size + 1) (keepV v) (keepT v t) rfl rfl _ R3.out rfl hone ⟨(setRow_other _ _ _ _ (by omega)).trans F3.out, (setRow_other _ _ _ _ (by omega)).trans G3.out⟩ ?_
  simp only [Act.put]
  refine mix_val (.bool true) (by rfl) (fun _ _ => by rfl) ?_
  simp only [Act.put, List.setIfInBounds_toArray, List.set_cons_zero, List.set_cons_succ]
  refine mix_done ?_
  go_wp2_with fail
  refine bodyPost_ret (results_fact_tmp rfl _ _ (w.heap.size + 1) (keepV v) (keepT v t) _ rfl (setRow_heap _ _ _ _ _ _ R3.out) rfl) rfl ?_
  exact ⟨rfl, below_setRow' (Below.drew (Below.drew (Below.drew (B3.out)))) _ _ (by omega)⟩

end Go.Proofs.YtnndnjnpkjpkpaaGreatDoor
