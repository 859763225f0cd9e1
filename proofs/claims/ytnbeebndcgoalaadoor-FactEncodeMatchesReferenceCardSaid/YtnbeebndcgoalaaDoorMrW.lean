/- The walks of FactMatchesReference and FactEncodeMatchesReference. Conditions: the table of constants reads as the program lays it; the variable errForm holds an error of its own. -/
import Derived.Test.YtnbeebndcgoalaaDoorRfE2
import Derived.Test.YtnbeebndcgoalaaDoorQtl
namespace Go.Proofs.YtnbeebndcgoalaaDoor
open Go.RowKit

set_option maxRecDepth 100000 in
set_option maxHeartbeats 4000000 in
theorem mr_0 (u v : Nat → Int) (s t : ByteArray) (w : World) (a : Addr) (hK : Konst w) (hE : ErrK a w) (hs : s.size ≤ 9223372036854775807) (ht : t.size ≤ 9223372036854775807) (h1 : okT u (cutT s) = false) (h2 : eqB u v (cutT s) (cutT t) = false) (h3 : pvB u (cutT s) v (cutT t) = false) :
    Calls Tryd.prog 3 #[.agg (factC u s), .agg (factC v t)] w fun e W' => e = .returned (.bool true) ∧ Below w.heap.size w W' := by
  have hgE : 0 < w.heap.size := World.block_lt_of_cell? w _ hE
  have HK := Lib.hid hK
  have HE := Lib.hid hE
  clear hK hE
  have HS := Lib.hid (fun W (h : Konst W) (h' : ErrK a W) => sane_calls a W h h')
  have HV := Lib.hid (fun W => Valid_calls u (cutT s) W)
  have HW := Lib.hid (fun W => refValid_calls u (cutT s) W)
  have HQ := Lib.hid (fun W => Same_calls u v (cutT s) (cutT t) W)
  have hq := fun W => runEq u v (cutT s) (cutT t) W
  have KA := Lib.hid (fun W => Key_calls u (cutT s) W)
  have KB := Lib.hid (fun W => refKey_calls u (cutT s) W)
  have hk := fun W => key_eql u u true (decide_eq_true ⟨rfl, rfl⟩) W
  have PA := Lib.hid (fun W => Prevails_calls u v (cutT s) (cutT t) W)
  have PB := Lib.hid (fun W => refPrevails_calls u v (cutT s) (cutT t) W)
  rw [h1] at HV HW
  rw [h2] at HQ hq
  rw [h3] at PA PB
  clear h1 h2 h3
  have HCu := Lib.hid (fun W => cut_calls u s W hs)
  have HCv := Lib.hid (fun W => cut_calls v t W ht)
  have honeU := factC_one u (cutT s)
  have honeV := factC_one v (cutT t)
  generalize cutT s = cs at *
  generalize cutT t = ct at *
  go_enter Tryd.func3, Tryd.ntmps3
  go_upto_region 1 with (fail)
  obtain ⟨W0, hW0, f0, f1, b0⟩ := two_rows w (factC u s) (factC v t) 23 23
  rw [hW0]
  clear hW0
  have F0 := Lib.hid f0
  have G0 := Lib.hid f1
  have B0 := Lib.hid b0
  clear f0 f1 b0
  go_wp2_with fail
  refine (HS.out _ (HK.out.keep B0.out) (HE.out.keep B0.out hgE)).mono ?_
  rintro e W1 ⟨rfl, b1⟩
  have F1 := Lib.hid (Hl.row b1 F0.out)
  have G1 := Lib.hid (Hl.row b1 G0.out)
  have B1 := Lib.hid (B0.out.trans (Below.mono b1 B0.out.size))
  clear F0 G0 B0
  clear b1
  go_wp2_with fail
  refine wp_region_hl_tail 4 W1 (Hl.refl _) (by kernel_rfl) (by kernel_rfl) ?_
  simp only [List.take_succ_cons, List.take_zero]
  repeat (first
    | go_big_quiet_skip
    | (go_big_quiet_want; refine quiet_load_row _ rfl _ rfl _ _ F1.out ?_; simp only [Act.put, List.setIfInBounds_toArray, List.set_cons_zero, List.set_cons_succ]; go_big_quiet_on)
    | (go_big_quiet_want; refine quiet_load_row _ rfl _ rfl _ _ G1.out ?_; simp only [Act.put, List.setIfInBounds_toArray, List.set_cons_zero, List.set_cons_succ]; go_big_quiet_on)
    | (go_big_quiet_want; go_big_quiet_op; first
      | go_big_quiet_on
      | (apply Exists.intro; (with_reducible refine ⟨fun _ => hl_call (HCu.out _), ?_⟩); go_big_quiet_on)
      | (apply Exists.intro; (with_reducible refine ⟨fun _ => hl_call (HCv.out _), ?_⟩); go_big_quiet_on)
      ))
  refine wpQuiet_nil ?_
  intro W2 h2
  simp only [List.drop_succ_cons, List.drop_zero]

  have F2 := Lib.hid (Hl.row h2 F1.out)
  have G2 := Lib.hid (Hl.row h2 G1.out)
  have B2 := Lib.hid (B1.out.trans (Below.mono h2 B1.out.size))
  clear h2 F1 G1 B1
  refine wpList_store_row rfl 23 _ _ rfl w.heap.size (factC u cs) rfl rfl 23 _ F2.out (hiC _ _) rfl honeU ?_
  refine wpList_store_row rfl 23 _ _ rfl (w.heap.size + 1) (factC v ct) rfl rfl 23 _ ((setRow_other _ _ _ _ (by omega)).trans G2.out) (hiC _ _) rfl honeV ?_
  obtain ⟨W3, hW3, F3, G3, B3⟩ : ∃ W3, (W2.setRow w.heap.size (factC u cs)).setRow (w.heap.size + 1) (factC v ct) = W3 ∧ Hid (W3.heap[w.heap.size]? = some (.cells (factC u cs) 23 (0, 0))) ∧ Hid (W3.heap[w.heap.size + 1]? = some (.cells (factC v ct) 23 (0, 0))) ∧ Hid (Below w.heap.size w W3) :=
    ⟨_, rfl, Lib.hid ((setRow_other _ _ _ _ (by omega)).trans (setRow_heap _ _ _ _ _ _ F2.out)), Lib.hid (setRow_heap _ _ _ _ _ _ ((setRow_other _ _ _ _ (by omega)).trans G2.out)), Lib.hid (below_setRow' (below_setRow' B2.out _ _ (Nat.le_refl _)) _ _ (by omega))⟩
  rw [hW3]
  clear hW3 F2 G2 B2
  go_wp2_with (first
      | (refine wpList_load_fact rfl _ rfl w.heap.size rfl u cs F3.out ?_)
      | (refine wpList_load_fact rfl _ rfl (w.heap.size + 1) rfl v ct G3.out ?_))
  simp only [Act.put]
  refine wp_region_hl W3 (Hl.refl _) (by kernel_rfl) (by kernel_rfl) ?_
  repeat (first
    | go_big_quiet_skip
    | (go_big_quiet_want; refine quiet_load_row _ rfl _ rfl _ _ F3.out ?_; simp only [Act.put, List.setIfInBounds_toArray, List.set_cons_zero, List.set_cons_succ]; go_big_quiet_on)
    | (go_big_quiet_want; refine quiet_load_row _ rfl _ rfl _ _ G3.out ?_; simp only [Act.put, List.setIfInBounds_toArray, List.set_cons_zero, List.set_cons_succ]; go_big_quiet_on)
    | (go_big_quiet_want; go_big_quiet_op; first
      | go_big_quiet_on
      | (apply Exists.intro; (with_reducible refine ⟨fun _ => hl_call (HV.out _), ?_⟩); go_big_quiet_on)
      | (apply Exists.intro; (with_reducible refine ⟨fun _ => hl_call (HW.out _), ?_⟩); go_big_quiet_on)
      | (apply Exists.intro; (with_reducible refine ⟨fun _ => hl_call (HQ.out _), ?_⟩); go_big_quiet_on)
      | (apply Exists.intro; (with_reducible refine ⟨fun _ => hl_call (KA.out _), ?_⟩); go_big_quiet_on)
      | (apply Exists.intro; (with_reducible refine ⟨fun _ => hl_call (KB.out _), ?_⟩); go_big_quiet_on)
      | (apply Exists.intro; (with_reducible refine ⟨fun _ => hl_call (PA.out _), ?_⟩); go_big_quiet_on)
      | (apply Exists.intro; (with_reducible refine ⟨fun _ => hl_call (PB.out _), ?_⟩); go_big_quiet_on)
      ))
  refine wpQuiet_nil ?_
  intro W4 h4
  have F4 := Lib.hid (Hl.row h4 F3.out)
  have G4 := Lib.hid (Hl.row h4 G3.out)
  have B4 := Lib.hid (B3.out.trans (Below.mono h4 B3.out.size))
  clear F3 G3 B3
  clear h4
  go_wp2_with (first
      | (refine wpList_load_fact rfl _ rfl w.heap.size rfl u cs F4.out ?_)
      | (refine wpList_load_fact rfl _ rfl (w.heap.size + 1) rfl v ct G4.out ?_))
  go_ret
  exact ⟨rfl, B4.out⟩

set_option maxRecDepth 100000 in
set_option maxHeartbeats 4000000 in
theorem mr_1 (u v : Nat → Int) (s t : ByteArray) (w : World) (a : Addr) (hK : Konst w) (hE : ErrK a w) (hs : s.size ≤ 9223372036854775807) (ht : t.size ≤ 9223372036854775807) (h1 : okT u (cutT s) = true) (h2 : eqB u v (cutT s) (cutT t) = false) (h3 : pvB u (cutT s) v (cutT t) = false) :
    Calls Tryd.prog 3 #[.agg (factC u s), .agg (factC v t)] w fun e W' => e = .returned (.bool true) ∧ Below w.heap.size w W' := by
  have hgE : 0 < w.heap.size := World.block_lt_of_cell? w _ hE
  have HK := Lib.hid hK
  have HE := Lib.hid hE
  clear hK hE
  have HS := Lib.hid (fun W (h : Konst W) (h' : ErrK a W) => sane_calls a W h h')
  have HV := Lib.hid (fun W => Valid_calls u (cutT s) W)
  have HW := Lib.hid (fun W => refValid_calls u (cutT s) W)
  have HQ := Lib.hid (fun W => Same_calls u v (cutT s) (cutT t) W)
  have hq := fun W => runEq u v (cutT s) (cutT t) W
  have KA := Lib.hid (fun W => Key_calls u (cutT s) W)
  have KB := Lib.hid (fun W => refKey_calls u (cutT s) W)
  have hk := fun W => key_eql u u true (decide_eq_true ⟨rfl, rfl⟩) W
  have PA := Lib.hid (fun W => Prevails_calls u v (cutT s) (cutT t) W)
  have PB := Lib.hid (fun W => refPrevails_calls u v (cutT s) (cutT t) W)
  rw [h1] at HV HW
  rw [h2] at HQ hq
  rw [h3] at PA PB
  clear h1 h2 h3
  have HCu := Lib.hid (fun W => cut_calls u s W hs)
  have HCv := Lib.hid (fun W => cut_calls v t W ht)
  have honeU := factC_one u (cutT s)
  have honeV := factC_one v (cutT t)
  generalize cutT s = cs at *
  generalize cutT t = ct at *
  go_enter Tryd.func3, Tryd.ntmps3
  go_upto_region 1 with (fail)
  obtain ⟨W0, hW0, f0, f1, b0⟩ := two_rows w (factC u s) (factC v t) 23 23
  rw [hW0]
  clear hW0
  have F0 := Lib.hid f0
  have G0 := Lib.hid f1
  have B0 := Lib.hid b0
  clear f0 f1 b0
  go_wp2_with fail
  refine (HS.out _ (HK.out.keep B0.out) (HE.out.keep B0.out hgE)).mono ?_
  rintro e W1 ⟨rfl, b1⟩
  have F1 := Lib.hid (Hl.row b1 F0.out)
  have G1 := Lib.hid (Hl.row b1 G0.out)
  have B1 := Lib.hid (B0.out.trans (Below.mono b1 B0.out.size))
  clear F0 G0 B0
  clear b1
  go_wp2_with fail
  refine wp_region_hl_tail 4 W1 (Hl.refl _) (by kernel_rfl) (by kernel_rfl) ?_
  simp only [List.take_succ_cons, List.take_zero]
  repeat (first
    | go_big_quiet_skip
    | (go_big_quiet_want; refine quiet_load_row _ rfl _ rfl _ _ F1.out ?_; simp only [Act.put, List.setIfInBounds_toArray, List.set_cons_zero, List.set_cons_succ]; go_big_quiet_on)
    | (go_big_quiet_want; refine quiet_load_row _ rfl _ rfl _ _ G1.out ?_; simp only [Act.put, List.setIfInBounds_toArray, List.set_cons_zero, List.set_cons_succ]; go_big_quiet_on)
    | (go_big_quiet_want; go_big_quiet_op; first
      | go_big_quiet_on
      | (apply Exists.intro; (with_reducible refine ⟨fun _ => hl_call (HCu.out _), ?_⟩); go_big_quiet_on)
      | (apply Exists.intro; (with_reducible refine ⟨fun _ => hl_call (HCv.out _), ?_⟩); go_big_quiet_on)
      ))
  refine wpQuiet_nil ?_
  intro W2 h2
  simp only [List.drop_succ_cons, List.drop_zero]

  have F2 := Lib.hid (Hl.row h2 F1.out)
  have G2 := Lib.hid (Hl.row h2 G1.out)
  have B2 := Lib.hid (B1.out.trans (Below.mono h2 B1.out.size))
  clear h2 F1 G1 B1
  refine wpList_store_row rfl 23 _ _ rfl w.heap.size (factC u cs) rfl rfl 23 _ F2.out (hiC _ _) rfl honeU ?_
  refine wpList_store_row rfl 23 _ _ rfl (w.heap.size + 1) (factC v ct) rfl rfl 23 _ ((setRow_other _ _ _ _ (by omega)).trans G2.out) (hiC _ _) rfl honeV ?_
  obtain ⟨W3, hW3, F3, G3, B3⟩ : ∃ W3, (W2.setRow w.heap.size (factC u cs)).setRow (w.heap.size + 1) (factC v ct) = W3 ∧ Hid (W3.heap[w.heap.size]? = some (.cells (factC u cs) 23 (0, 0))) ∧ Hid (W3.heap[w.heap.size + 1]? = some (.cells (factC v ct) 23 (0, 0))) ∧ Hid (Below w.heap.size w W3) :=
    ⟨_, rfl, Lib.hid ((setRow_other _ _ _ _ (by omega)).trans (setRow_heap _ _ _ _ _ _ F2.out)), Lib.hid (setRow_heap _ _ _ _ _ _ ((setRow_other _ _ _ _ (by omega)).trans G2.out)), Lib.hid (below_setRow' (below_setRow' B2.out _ _ (Nat.le_refl _)) _ _ (by omega))⟩
  rw [hW3]
  clear hW3 F2 G2 B2
  go_wp2_with (first
      | (refine wpList_load_fact rfl _ rfl w.heap.size rfl u cs F3.out ?_)
      | (refine wpList_load_fact rfl _ rfl (w.heap.size + 1) rfl v ct G3.out ?_))
  simp only [Act.put]
  refine wp_region_hl W3 (Hl.refl _) (by kernel_rfl) (by kernel_rfl) ?_
  repeat (first
    | go_big_quiet_skip
    | (go_big_quiet_want; refine quiet_load_row _ rfl _ rfl _ _ F3.out ?_; simp only [Act.put, List.setIfInBounds_toArray, List.set_cons_zero, List.set_cons_succ]; go_big_quiet_on)
    | (go_big_quiet_want; refine quiet_load_row _ rfl _ rfl _ _ G3.out ?_; simp only [Act.put, List.setIfInBounds_toArray, List.set_cons_zero, List.set_cons_succ]; go_big_quiet_on)
    | (go_big_quiet_want; go_big_quiet_op; first
      | go_big_quiet_on
      | (apply Exists.intro; (with_reducible refine ⟨fun _ => hl_call (HV.out _), ?_⟩); go_big_quiet_on)
      | (apply Exists.intro; (with_reducible refine ⟨fun _ => hl_call (HW.out _), ?_⟩); go_big_quiet_on)
      | (apply Exists.intro; (with_reducible refine ⟨fun _ => hl_call (HQ.out _), ?_⟩); go_big_quiet_on)
      | (apply Exists.intro; (with_reducible refine ⟨fun _ => hl_call (KA.out _), ?_⟩); go_big_quiet_on)
      | (apply Exists.intro; (with_reducible refine ⟨fun _ => hl_call (KB.out _), ?_⟩); go_big_quiet_on)
      | (apply Exists.intro; (with_reducible refine ⟨fun _ => hl_call (PA.out _), ?_⟩); go_big_quiet_on)
      | (apply Exists.intro; (with_reducible refine ⟨fun _ => hl_call (PB.out _), ?_⟩); go_big_quiet_on)
      ))
  refine wpQuiet_nil ?_
  intro W4 h4
  have F4 := Lib.hid (Hl.row h4 F3.out)
  have G4 := Lib.hid (Hl.row h4 G3.out)
  have B4 := Lib.hid (B3.out.trans (Below.mono h4 B3.out.size))
  clear F3 G3 B3
  clear h4
  go_wp2_with (first
      | (refine wpList_load_fact rfl _ rfl w.heap.size rfl u cs F4.out ?_)
      | (refine wpList_load_fact rfl _ rfl (w.heap.size + 1) rfl v ct G4.out ?_))
  go_ret
  exact ⟨rfl, B4.out⟩

set_option maxRecDepth 100000 in
set_option maxHeartbeats 4000000 in
theorem mr_2 (u v : Nat → Int) (s t : ByteArray) (w : World) (a : Addr) (hK : Konst w) (hE : ErrK a w) (hs : s.size ≤ 9223372036854775807) (ht : t.size ≤ 9223372036854775807) (h1 : okT u (cutT s) = false) (h2 : eqB u v (cutT s) (cutT t) = true) (h3 : pvB u (cutT s) v (cutT t) = false) :
    Calls Tryd.prog 3 #[.agg (factC u s), .agg (factC v t)] w fun e W' => e = .returned (.bool true) ∧ Below w.heap.size w W' := by
  have hgE : 0 < w.heap.size := World.block_lt_of_cell? w _ hE
  have HK := Lib.hid hK
  have HE := Lib.hid hE
  clear hK hE
  have HS := Lib.hid (fun W (h : Konst W) (h' : ErrK a W) => sane_calls a W h h')
  have HV := Lib.hid (fun W => Valid_calls u (cutT s) W)
  have HW := Lib.hid (fun W => refValid_calls u (cutT s) W)
  have HQ := Lib.hid (fun W => Same_calls u v (cutT s) (cutT t) W)
  have hq := fun W => runEq u v (cutT s) (cutT t) W
  have KA := Lib.hid (fun W => Key_calls u (cutT s) W)
  have KB := Lib.hid (fun W => refKey_calls u (cutT s) W)
  have hk := fun W => key_eql u u true (decide_eq_true ⟨rfl, rfl⟩) W
  have PA := Lib.hid (fun W => Prevails_calls u v (cutT s) (cutT t) W)
  have PB := Lib.hid (fun W => refPrevails_calls u v (cutT s) (cutT t) W)
  rw [h1] at HV HW
  rw [h2] at HQ hq
  rw [h3] at PA PB
  clear h1 h2 h3
  have HCu := Lib.hid (fun W => cut_calls u s W hs)
  have HCv := Lib.hid (fun W => cut_calls v t W ht)
  have honeU := factC_one u (cutT s)
  have honeV := factC_one v (cutT t)
  generalize cutT s = cs at *
  generalize cutT t = ct at *
  go_enter Tryd.func3, Tryd.ntmps3
  go_upto_region 1 with (fail)
  obtain ⟨W0, hW0, f0, f1, b0⟩ := two_rows w (factC u s) (factC v t) 23 23
  rw [hW0]
  clear hW0
  have F0 := Lib.hid f0
  have G0 := Lib.hid f1
  have B0 := Lib.hid b0
  clear f0 f1 b0
  go_wp2_with fail
  refine (HS.out _ (HK.out.keep B0.out) (HE.out.keep B0.out hgE)).mono ?_
  rintro e W1 ⟨rfl, b1⟩
  have F1 := Lib.hid (Hl.row b1 F0.out)
  have G1 := Lib.hid (Hl.row b1 G0.out)
  have B1 := Lib.hid (B0.out.trans (Below.mono b1 B0.out.size))
  clear F0 G0 B0
  clear b1
  go_wp2_with fail
  refine wp_region_hl_tail 4 W1 (Hl.refl _) (by kernel_rfl) (by kernel_rfl) ?_
  simp only [List.take_succ_cons, List.take_zero]
  repeat (first
    | go_big_quiet_skip
    | (go_big_quiet_want; refine quiet_load_row _ rfl _ rfl _ _ F1.out ?_; simp only [Act.put, List.setIfInBounds_toArray, List.set_cons_zero, List.set_cons_succ]; go_big_quiet_on)
    | (go_big_quiet_want; refine quiet_load_row _ rfl _ rfl _ _ G1.out ?_; simp only [Act.put, List.setIfInBounds_toArray, List.set_cons_zero, List.set_cons_succ]; go_big_quiet_on)
    | (go_big_quiet_want; go_big_quiet_op; first
      | go_big_quiet_on
      | (apply Exists.intro; (with_reducible refine ⟨fun _ => hl_call (HCu.out _), ?_⟩); go_big_quiet_on)
      | (apply Exists.intro; (with_reducible refine ⟨fun _ => hl_call (HCv.out _), ?_⟩); go_big_quiet_on)
      ))
  refine wpQuiet_nil ?_
  intro W2 h2
  simp only [List.drop_succ_cons, List.drop_zero]

  have F2 := Lib.hid (Hl.row h2 F1.out)
  have G2 := Lib.hid (Hl.row h2 G1.out)
  have B2 := Lib.hid (B1.out.trans (Below.mono h2 B1.out.size))
  clear h2 F1 G1 B1
  refine wpList_store_row rfl 23 _ _ rfl w.heap.size (factC u cs) rfl rfl 23 _ F2.out (hiC _ _) rfl honeU ?_
  refine wpList_store_row rfl 23 _ _ rfl (w.heap.size + 1) (factC v ct) rfl rfl 23 _ ((setRow_other _ _ _ _ (by omega)).trans G2.out) (hiC _ _) rfl honeV ?_
  obtain ⟨W3, hW3, F3, G3, B3⟩ : ∃ W3, (W2.setRow w.heap.size (factC u cs)).setRow (w.heap.size + 1) (factC v ct) = W3 ∧ Hid (W3.heap[w.heap.size]? = some (.cells (factC u cs) 23 (0, 0))) ∧ Hid (W3.heap[w.heap.size + 1]? = some (.cells (factC v ct) 23 (0, 0))) ∧ Hid (Below w.heap.size w W3) :=
    ⟨_, rfl, Lib.hid ((setRow_other _ _ _ _ (by omega)).trans (setRow_heap _ _ _ _ _ _ F2.out)), Lib.hid (setRow_heap _ _ _ _ _ _ ((setRow_other _ _ _ _ (by omega)).trans G2.out)), Lib.hid (below_setRow' (below_setRow' B2.out _ _ (Nat.le_refl _)) _ _ (by omega))⟩
  rw [hW3]
  clear hW3 F2 G2 B2
  go_wp2_with (first
      | (refine wpList_load_fact rfl _ rfl w.heap.size rfl u cs F3.out ?_)
      | (refine wpList_load_fact rfl _ rfl (w.heap.size + 1) rfl v ct G3.out ?_))
  simp only [Act.put]
  refine wp_region_hl W3 (Hl.refl _) (by kernel_rfl) (by kernel_rfl) ?_
  repeat (first
    | go_big_quiet_skip
    | (go_big_quiet_want; refine quiet_load_row _ rfl _ rfl _ _ F3.out ?_; simp only [Act.put, List.setIfInBounds_toArray, List.set_cons_zero, List.set_cons_succ]; go_big_quiet_on)
    | (go_big_quiet_want; refine quiet_load_row _ rfl _ rfl _ _ G3.out ?_; simp only [Act.put, List.setIfInBounds_toArray, List.set_cons_zero, List.set_cons_succ]; go_big_quiet_on)
    | (go_big_quiet_want; go_big_quiet_op; first
      | go_big_quiet_on
      | (apply Exists.intro; (with_reducible refine ⟨fun _ => hl_call (HV.out _), ?_⟩); go_big_quiet_on)
      | (apply Exists.intro; (with_reducible refine ⟨fun _ => hl_call (HW.out _), ?_⟩); go_big_quiet_on)
      | (apply Exists.intro; (with_reducible refine ⟨fun _ => hl_call (HQ.out _), ?_⟩); go_big_quiet_on)
      | (apply Exists.intro; (with_reducible refine ⟨fun _ => hl_call (KA.out _), ?_⟩); go_big_quiet_on)
      | (apply Exists.intro; (with_reducible refine ⟨fun _ => hl_call (KB.out _), ?_⟩); go_big_quiet_on)
      | (apply Exists.intro; (with_reducible refine ⟨fun _ => hl_call (PA.out _), ?_⟩); go_big_quiet_on)
      | (apply Exists.intro; (with_reducible refine ⟨fun _ => hl_call (PB.out _), ?_⟩); go_big_quiet_on)
      ))
  refine wpQuiet_nil ?_
  intro W4 h4
  have F4 := Lib.hid (Hl.row h4 F3.out)
  have G4 := Lib.hid (Hl.row h4 G3.out)
  have B4 := Lib.hid (B3.out.trans (Below.mono h4 B3.out.size))
  clear F3 G3 B3
  clear h4
  go_wp2_with (first
      | (refine wpList_load_fact rfl _ rfl w.heap.size rfl u cs F4.out ?_)
      | (refine wpList_load_fact rfl _ rfl (w.heap.size + 1) rfl v ct G4.out ?_))
  go_ret
  exact ⟨rfl, B4.out⟩

set_option maxRecDepth 100000 in
set_option maxHeartbeats 4000000 in
theorem mr_3 (u v : Nat → Int) (s t : ByteArray) (w : World) (a : Addr) (hK : Konst w) (hE : ErrK a w) (hs : s.size ≤ 9223372036854775807) (ht : t.size ≤ 9223372036854775807) (h1 : okT u (cutT s) = true) (h2 : eqB u v (cutT s) (cutT t) = true) (h3 : pvB u (cutT s) v (cutT t) = false) :
    Calls Tryd.prog 3 #[.agg (factC u s), .agg (factC v t)] w fun e W' => e = .returned (.bool true) ∧ Below w.heap.size w W' := by
  have hgE : 0 < w.heap.size := World.block_lt_of_cell? w _ hE
  have HK := Lib.hid hK
  have HE := Lib.hid hE
  clear hK hE
  have HS := Lib.hid (fun W (h : Konst W) (h' : ErrK a W) => sane_calls a W h h')
  have HV := Lib.hid (fun W => Valid_calls u (cutT s) W)
  have HW := Lib.hid (fun W => refValid_calls u (cutT s) W)
  have HQ := Lib.hid (fun W => Same_calls u v (cutT s) (cutT t) W)
  have hq := fun W => runEq u v (cutT s) (cutT t) W
  have KA := Lib.hid (fun W => Key_calls u (cutT s) W)
  have KB := Lib.hid (fun W => refKey_calls u (cutT s) W)
  have hk := fun W => key_eql u u true (decide_eq_true ⟨rfl, rfl⟩) W
  have PA := Lib.hid (fun W => Prevails_calls u v (cutT s) (cutT t) W)
  have PB := Lib.hid (fun W => refPrevails_calls u v (cutT s) (cutT t) W)
  rw [h1] at HV HW
  rw [h2] at HQ hq
  rw [h3] at PA PB
  clear h1 h2 h3
  have HCu := Lib.hid (fun W => cut_calls u s W hs)
  have HCv := Lib.hid (fun W => cut_calls v t W ht)
  have honeU := factC_one u (cutT s)
  have honeV := factC_one v (cutT t)
  generalize cutT s = cs at *
  generalize cutT t = ct at *
  go_enter Tryd.func3, Tryd.ntmps3
  go_upto_region 1 with (fail)
  obtain ⟨W0, hW0, f0, f1, b0⟩ := two_rows w (factC u s) (factC v t) 23 23
  rw [hW0]
  clear hW0
  have F0 := Lib.hid f0
  have G0 := Lib.hid f1
  have B0 := Lib.hid b0
  clear f0 f1 b0
  go_wp2_with fail
  refine (HS.out _ (HK.out.keep B0.out) (HE.out.keep B0.out hgE)).mono ?_
  rintro e W1 ⟨rfl, b1⟩
  have F1 := Lib.hid (Hl.row b1 F0.out)
  have G1 := Lib.hid (Hl.row b1 G0.out)
  have B1 := Lib.hid (B0.out.trans (Below.mono b1 B0.out.size))
  clear F0 G0 B0
  clear b1
  go_wp2_with fail
  refine wp_region_hl_tail 4 W1 (Hl.refl _) (by kernel_rfl) (by kernel_rfl) ?_
  simp only [List.take_succ_cons, List.take_zero]
  repeat (first
    | go_big_quiet_skip
    | (go_big_quiet_want; refine quiet_load_row _ rfl _ rfl _ _ F1.out ?_; simp only [Act.put, List.setIfInBounds_toArray, List.set_cons_zero, List.set_cons_succ]; go_big_quiet_on)
    | (go_big_quiet_want; refine quiet_load_row _ rfl _ rfl _ _ G1.out ?_; simp only [Act.put, List.setIfInBounds_toArray, List.set_cons_zero, List.set_cons_succ]; go_big_quiet_on)
    | (go_big_quiet_want; go_big_quiet_op; first
      | go_big_quiet_on
      | (apply Exists.intro; (with_reducible refine ⟨fun _ => hl_call (HCu.out _), ?_⟩); go_big_quiet_on)
      | (apply Exists.intro; (with_reducible refine ⟨fun _ => hl_call (HCv.out _), ?_⟩); go_big_quiet_on)
      ))
  refine wpQuiet_nil ?_
  intro W2 h2
  simp only [List.drop_succ_cons, List.drop_zero]

  have F2 := Lib.hid (Hl.row h2 F1.out)
  have G2 := Lib.hid (Hl.row h2 G1.out)
  have B2 := Lib.hid (B1.out.trans (Below.mono h2 B1.out.size))
  clear h2 F1 G1 B1
  refine wpList_store_row rfl 23 _ _ rfl w.heap.size (factC u cs) rfl rfl 23 _ F2.out (hiC _ _) rfl honeU ?_
  refine wpList_store_row rfl 23 _ _ rfl (w.heap.size + 1) (factC v ct) rfl rfl 23 _ ((setRow_other _ _ _ _ (by omega)).trans G2.out) (hiC _ _) rfl honeV ?_
  obtain ⟨W3, hW3, F3, G3, B3⟩ : ∃ W3, (W2.setRow w.heap.size (factC u cs)).setRow (w.heap.size + 1) (factC v ct) = W3 ∧ Hid (W3.heap[w.heap.size]? = some (.cells (factC u cs) 23 (0, 0))) ∧ Hid (W3.heap[w.heap.size + 1]? = some (.cells (factC v ct) 23 (0, 0))) ∧ Hid (Below w.heap.size w W3) :=
    ⟨_, rfl, Lib.hid ((setRow_other _ _ _ _ (by omega)).trans (setRow_heap _ _ _ _ _ _ F2.out)), Lib.hid (setRow_heap _ _ _ _ _ _ ((setRow_other _ _ _ _ (by omega)).trans G2.out)), Lib.hid (below_setRow' (below_setRow' B2.out _ _ (Nat.le_refl _)) _ _ (by omega))⟩
  rw [hW3]
  clear hW3 F2 G2 B2
  go_wp2_with (first
      | (refine wpList_load_fact rfl _ rfl w.heap.size rfl u cs F3.out ?_)
      | (refine wpList_load_fact rfl _ rfl (w.heap.size + 1) rfl v ct G3.out ?_))
  simp only [Act.put]
  refine wp_region_hl W3 (Hl.refl _) (by kernel_rfl) (by kernel_rfl) ?_
  repeat (first
    | go_big_quiet_skip
    | (go_big_quiet_want; refine quiet_load_row _ rfl _ rfl _ _ F3.out ?_; simp only [Act.put, List.setIfInBounds_toArray, List.set_cons_zero, List.set_cons_succ]; go_big_quiet_on)
    | (go_big_quiet_want; refine quiet_load_row _ rfl _ rfl _ _ G3.out ?_; simp only [Act.put, List.setIfInBounds_toArray, List.set_cons_zero, List.set_cons_succ]; go_big_quiet_on)
    | (go_big_quiet_want; go_big_quiet_op; first
      | go_big_quiet_on
      | (apply Exists.intro; (with_reducible refine ⟨fun _ => hl_call (HV.out _), ?_⟩); go_big_quiet_on)
      | (apply Exists.intro; (with_reducible refine ⟨fun _ => hl_call (HW.out _), ?_⟩); go_big_quiet_on)
      | (apply Exists.intro; (with_reducible refine ⟨fun _ => hl_call (HQ.out _), ?_⟩); go_big_quiet_on)
      | (apply Exists.intro; (with_reducible refine ⟨fun _ => hl_call (KA.out _), ?_⟩); go_big_quiet_on)
      | (apply Exists.intro; (with_reducible refine ⟨fun _ => hl_call (KB.out _), ?_⟩); go_big_quiet_on)
      | (apply Exists.intro; (with_reducible refine ⟨fun _ => hl_call (PA.out _), ?_⟩); go_big_quiet_on)
      | (apply Exists.intro; (with_reducible refine ⟨fun _ => hl_call (PB.out _), ?_⟩); go_big_quiet_on)
      ))
  refine wpQuiet_nil ?_
  intro W4 h4
  have F4 := Lib.hid (Hl.row h4 F3.out)
  have G4 := Lib.hid (Hl.row h4 G3.out)
  have B4 := Lib.hid (B3.out.trans (Below.mono h4 B3.out.size))
  clear F3 G3 B3
  clear h4
  go_wp2_with (first
      | (refine wpList_load_fact rfl _ rfl w.heap.size rfl u cs F4.out ?_)
      | (refine wpList_load_fact rfl _ rfl (w.heap.size + 1) rfl v ct G4.out ?_))
  go_ret
  exact ⟨rfl, B4.out⟩

set_option maxRecDepth 100000 in
set_option maxHeartbeats 4000000 in
theorem mr_4 (u v : Nat → Int) (s t : ByteArray) (w : World) (a : Addr) (hK : Konst w) (hE : ErrK a w) (hs : s.size ≤ 9223372036854775807) (ht : t.size ≤ 9223372036854775807) (h1 : okT u (cutT s) = false) (h2 : eqB u v (cutT s) (cutT t) = false) (h3 : pvB u (cutT s) v (cutT t) = true) :
    Calls Tryd.prog 3 #[.agg (factC u s), .agg (factC v t)] w fun e W' => e = .returned (.bool true) ∧ Below w.heap.size w W' := by
  have hgE : 0 < w.heap.size := World.block_lt_of_cell? w _ hE
  have HK := Lib.hid hK
  have HE := Lib.hid hE
  clear hK hE
  have HS := Lib.hid (fun W (h : Konst W) (h' : ErrK a W) => sane_calls a W h h')
  have HV := Lib.hid (fun W => Valid_calls u (cutT s) W)
  have HW := Lib.hid (fun W => refValid_calls u (cutT s) W)
  have HQ := Lib.hid (fun W => Same_calls u v (cutT s) (cutT t) W)
  have hq := fun W => runEq u v (cutT s) (cutT t) W
  have KA := Lib.hid (fun W => Key_calls u (cutT s) W)
  have KB := Lib.hid (fun W => refKey_calls u (cutT s) W)
  have hk := fun W => key_eql u u true (decide_eq_true ⟨rfl, rfl⟩) W
  have PA := Lib.hid (fun W => Prevails_calls u v (cutT s) (cutT t) W)
  have PB := Lib.hid (fun W => refPrevails_calls u v (cutT s) (cutT t) W)
  rw [h1] at HV HW
  rw [h2] at HQ hq
  rw [h3] at PA PB
  clear h1 h2 h3
  have HCu := Lib.hid (fun W => cut_calls u s W hs)
  have HCv := Lib.hid (fun W => cut_calls v t W ht)
  have honeU := factC_one u (cutT s)
  have honeV := factC_one v (cutT t)
  generalize cutT s = cs at *
  generalize cutT t = ct at *
  go_enter Tryd.func3, Tryd.ntmps3
  go_upto_region 1 with (fail)
  obtain ⟨W0, hW0, f0, f1, b0⟩ := two_rows w (factC u s) (factC v t) 23 23
  rw [hW0]
  clear hW0
  have F0 := Lib.hid f0
  have G0 := Lib.hid f1
  have B0 := Lib.hid b0
  clear f0 f1 b0
  go_wp2_with fail
  refine (HS.out _ (HK.out.keep B0.out) (HE.out.keep B0.out hgE)).mono ?_
  rintro e W1 ⟨rfl, b1⟩
  have F1 := Lib.hid (Hl.row b1 F0.out)
  have G1 := Lib.hid (Hl.row b1 G0.out)
  have B1 := Lib.hid (B0.out.trans (Below.mono b1 B0.out.size))
  clear F0 G0 B0
  clear b1
  go_wp2_with fail
  refine wp_region_hl_tail 4 W1 (Hl.refl _) (by kernel_rfl) (by kernel_rfl) ?_
  simp only [List.take_succ_cons, List.take_zero]
  repeat (first
    | go_big_quiet_skip
    | (go_big_quiet_want; refine quiet_load_row _ rfl _ rfl _ _ F1.out ?_; simp only [Act.put, List.setIfInBounds_toArray, List.set_cons_zero, List.set_cons_succ]; go_big_quiet_on)
    | (go_big_quiet_want; refine quiet_load_row _ rfl _ rfl _ _ G1.out ?_; simp only [Act.put, List.setIfInBounds_toArray, List.set_cons_zero, List.set_cons_succ]; go_big_quiet_on)
    | (go_big_quiet_want; go_big_quiet_op; first
      | go_big_quiet_on
      | (apply Exists.intro; (with_reducible refine ⟨fun _ => hl_call (HCu.out _), ?_⟩); go_big_quiet_on)
      | (apply Exists.intro; (with_reducible refine ⟨fun _ => hl_call (HCv.out _), ?_⟩); go_big_quiet_on)
      ))
  refine wpQuiet_nil ?_
  intro W2 h2
  simp only [List.drop_succ_cons, List.drop_zero]

  have F2 := Lib.hid (Hl.row h2 F1.out)
  have G2 := Lib.hid (Hl.row h2 G1.out)
  have B2 := Lib.hid (B1.out.trans (Below.mono h2 B1.out.size))
  clear h2 F1 G1 B1
  refine wpList_store_row rfl 23 _ _ rfl w.heap.size (factC u cs) rfl rfl 23 _ F2.out (hiC _ _) rfl honeU ?_
  refine wpList_store_row rfl 23 _ _ rfl (w.heap.size + 1) (factC v ct) rfl rfl 23 _ ((setRow_other _ _ _ _ (by omega)).trans G2.out) (hiC _ _) rfl honeV ?_
  obtain ⟨W3, hW3, F3, G3, B3⟩ : ∃ W3, (W2.setRow w.heap.size (factC u cs)).setRow (w.heap.size + 1) (factC v ct) = W3 ∧ Hid (W3.heap[w.heap.size]? = some (.cells (factC u cs) 23 (0, 0))) ∧ Hid (W3.heap[w.heap.size + 1]? = some (.cells (factC v ct) 23 (0, 0))) ∧ Hid (Below w.heap.size w W3) :=
    ⟨_, rfl, Lib.hid ((setRow_other _ _ _ _ (by omega)).trans (setRow_heap _ _ _ _ _ _ F2.out)), Lib.hid (setRow_heap _ _ _ _ _ _ ((setRow_other _ _ _ _ (by omega)).trans G2.out)), Lib.hid (below_setRow' (below_setRow' B2.out _ _ (Nat.le_refl _)) _ _ (by omega))⟩
  rw [hW3]
  clear hW3 F2 G2 B2
  go_wp2_with (first
      | (refine wpList_load_fact rfl _ rfl w.heap.size rfl u cs F3.out ?_)
      | (refine wpList_load_fact rfl _ rfl (w.heap.size + 1) rfl v ct G3.out ?_))
  simp only [Act.put]
  refine wp_region_hl W3 (Hl.refl _) (by kernel_rfl) (by kernel_rfl) ?_
  repeat (first
    | go_big_quiet_skip
    | (go_big_quiet_want; refine quiet_load_row _ rfl _ rfl _ _ F3.out ?_; simp only [Act.put, List.setIfInBounds_toArray, List.set_cons_zero, List.set_cons_succ]; go_big_quiet_on)
    | (go_big_quiet_want; refine quiet_load_row _ rfl _ rfl _ _ G3.out ?_; simp only [Act.put, List.setIfInBounds_toArray, List.set_cons_zero, List.set_cons_succ]; go_big_quiet_on)
    | (go_big_quiet_want; go_big_quiet_op; first
      | go_big_quiet_on
      | (apply Exists.intro; (with_reducible refine ⟨fun _ => hl_call (HV.out _), ?_⟩); go_big_quiet_on)
      | (apply Exists.intro; (with_reducible refine ⟨fun _ => hl_call (HW.out _), ?_⟩); go_big_quiet_on)
      | (apply Exists.intro; (with_reducible refine ⟨fun _ => hl_call (HQ.out _), ?_⟩); go_big_quiet_on)
      | (apply Exists.intro; (with_reducible refine ⟨fun _ => hl_call (KA.out _), ?_⟩); go_big_quiet_on)
      | (apply Exists.intro; (with_reducible refine ⟨fun _ => hl_call (KB.out _), ?_⟩); go_big_quiet_on)
      | (apply Exists.intro; (with_reducible refine ⟨fun _ => hl_call (PA.out _), ?_⟩); go_big_quiet_on)
      | (apply Exists.intro; (with_reducible refine ⟨fun _ => hl_call (PB.out _), ?_⟩); go_big_quiet_on)
      ))
  refine wpQuiet_nil ?_
  intro W4 h4
  have F4 := Lib.hid (Hl.row h4 F3.out)
  have G4 := Lib.hid (Hl.row h4 G3.out)
  have B4 := Lib.hid (B3.out.trans (Below.mono h4 B3.out.size))
  clear F3 G3 B3
  clear h4
  go_wp2_with (first
      | (refine wpList_load_fact rfl _ rfl w.heap.size rfl u cs F4.out ?_)
      | (refine wpList_load_fact rfl _ rfl (w.heap.size + 1) rfl v ct G4.out ?_))
  go_ret
  exact ⟨rfl, B4.out⟩

set_option maxRecDepth 100000 in
set_option maxHeartbeats 4000000 in
theorem mr_5 (u v : Nat → Int) (s t : ByteArray) (w : World) (a : Addr) (hK : Konst w) (hE : ErrK a w) (hs : s.size ≤ 9223372036854775807) (ht : t.size ≤ 9223372036854775807) (h1 : okT u (cutT s) = true) (h2 : eqB u v (cutT s) (cutT t) = false) (h3 : pvB u (cutT s) v (cutT t) = true) :
    Calls Tryd.prog 3 #[.agg (factC u s), .agg (factC v t)] w fun e W' => e = .returned (.bool true) ∧ Below w.heap.size w W' := by
  have hgE : 0 < w.heap.size := World.block_lt_of_cell? w _ hE
  have HK := Lib.hid hK
  have HE := Lib.hid hE
  clear hK hE
  have HS := Lib.hid (fun W (h : Konst W) (h' : ErrK a W) => sane_calls a W h h')
  have HV := Lib.hid (fun W => Valid_calls u (cutT s) W)
  have HW := Lib.hid (fun W => refValid_calls u (cutT s) W)
  have HQ := Lib.hid (fun W => Same_calls u v (cutT s) (cutT t) W)
  have hq := fun W => runEq u v (cutT s) (cutT t) W
  have KA := Lib.hid (fun W => Key_calls u (cutT s) W)
  have KB := Lib.hid (fun W => refKey_calls u (cutT s) W)
  have hk := fun W => key_eql u u true (decide_eq_true ⟨rfl, rfl⟩) W
  have PA := Lib.hid (fun W => Prevails_calls u v (cutT s) (cutT t) W)
  have PB := Lib.hid (fun W => refPrevails_calls u v (cutT s) (cutT t) W)
  rw [h1] at HV HW
  rw [h2] at HQ hq
  rw [h3] at PA PB
  clear h1 h2 h3
  have HCu := Lib.hid (fun W => cut_calls u s W hs)
  have HCv := Lib.hid (fun W => cut_calls v t W ht)
  have honeU := factC_one u (cutT s)
  have honeV := factC_one v (cutT t)
  generalize cutT s = cs at *
  generalize cutT t = ct at *
  go_enter Tryd.func3, Tryd.ntmps3
  go_upto_region 1 with (fail)
  obtain ⟨W0, hW0, f0, f1, b0⟩ := two_rows w (factC u s) (factC v t) 23 23
  rw [hW0]
  clear hW0
  have F0 := Lib.hid f0
  have G0 := Lib.hid f1
  have B0 := Lib.hid b0
  clear f0 f1 b0
  go_wp2_with fail
  refine (HS.out _ (HK.out.keep B0.out) (HE.out.keep B0.out hgE)).mono ?_
  rintro e W1 ⟨rfl, b1⟩
  have F1 := Lib.hid (Hl.row b1 F0.out)
  have G1 := Lib.hid (Hl.row b1 G0.out)
  have B1 := Lib.hid (B0.out.trans (Below.mono b1 B0.out.size))
  clear F0 G0 B0
  clear b1
  go_wp2_with fail
  refine wp_region_hl_tail 4 W1 (Hl.refl _) (by kernel_rfl) (by kernel_rfl) ?_
  simp only [List.take_succ_cons, List.take_zero]
  repeat (first
    | go_big_quiet_skip
    | (go_big_quiet_want; refine quiet_load_row _ rfl _ rfl _ _ F1.out ?_; simp only [Act.put, List.setIfInBounds_toArray, List.set_cons_zero, List.set_cons_succ]; go_big_quiet_on)
    | (go_big_quiet_want; refine quiet_load_row _ rfl _ rfl _ _ G1.out ?_; simp only [Act.put, List.setIfInBounds_toArray, List.set_cons_zero, List.set_cons_succ]; go_big_quiet_on)
    | (go_big_quiet_want; go_big_quiet_op; first
      | go_big_quiet_on
      | (apply Exists.intro; (with_reducible refine ⟨fun _ => hl_call (HCu.out _), ?_⟩); go_big_quiet_on)
      | (apply Exists.intro; (with_reducible refine ⟨fun _ => hl_call (HCv.out _), ?_⟩); go_big_quiet_on)
      ))
  refine wpQuiet_nil ?_
  intro W2 h2
  simp only [List.drop_succ_cons, List.drop_zero]

  have F2 := Lib.hid (Hl.row h2 F1.out)
  have G2 := Lib.hid (Hl.row h2 G1.out)
  have B2 := Lib.hid (B1.out.trans (Below.mono h2 B1.out.size))
  clear h2 F1 G1 B1
  refine wpList_store_row rfl 23 _ _ rfl w.heap.size (factC u cs) rfl rfl 23 _ F2.out (hiC _ _) rfl honeU ?_
  refine wpList_store_row rfl 23 _ _ rfl (w.heap.size + 1) (factC v ct) rfl rfl 23 _ ((setRow_other _ _ _ _ (by omega)).trans G2.out) (hiC _ _) rfl honeV ?_
  obtain ⟨W3, hW3, F3, G3, B3⟩ : ∃ W3, (W2.setRow w.heap.size (factC u cs)).setRow (w.heap.size + 1) (factC v ct) = W3 ∧ Hid (W3.heap[w.heap.size]? = some (.cells (factC u cs) 23 (0, 0))) ∧ Hid (W3.heap[w.heap.size + 1]? = some (.cells (factC v ct) 23 (0, 0))) ∧ Hid (Below w.heap.size w W3) :=
    ⟨_, rfl, Lib.hid ((setRow_other _ _ _ _ (by omega)).trans (setRow_heap _ _ _ _ _ _ F2.out)), Lib.hid (setRow_heap _ _ _ _ _ _ ((setRow_other _ _ _ _ (by omega)).trans G2.out)), Lib.hid (below_setRow' (below_setRow' B2.out _ _ (Nat.le_refl _)) _ _ (by omega))⟩
  rw [hW3]
  clear hW3 F2 G2 B2
  go_wp2_with (first
      | (refine wpList_load_fact rfl _ rfl w.heap.size rfl u cs F3.out ?_)
      | (refine wpList_load_fact rfl _ rfl (w.heap.size + 1) rfl v ct G3.out ?_))
  simp only [Act.put]
  refine wp_region_hl W3 (Hl.refl _) (by kernel_rfl) (by kernel_rfl) ?_
  repeat (first
    | go_big_quiet_skip
    | (go_big_quiet_want; refine quiet_load_row _ rfl _ rfl _ _ F3.out ?_; simp only [Act.put, List.setIfInBounds_toArray, List.set_cons_zero, List.set_cons_succ]; go_big_quiet_on)
    | (go_big_quiet_want; refine quiet_load_row _ rfl _ rfl _ _ G3.out ?_; simp only [Act.put, List.setIfInBounds_toArray, List.set_cons_zero, List.set_cons_succ]; go_big_quiet_on)
    | (go_big_quiet_want; go_big_quiet_op; first
      | go_big_quiet_on
      | (apply Exists.intro; (with_reducible refine ⟨fun _ => hl_call (HV.out _), ?_⟩); go_big_quiet_on)
      | (apply Exists.intro; (with_reducible refine ⟨fun _ => hl_call (HW.out _), ?_⟩); go_big_quiet_on)
      | (apply Exists.intro; (with_reducible refine ⟨fun _ => hl_call (HQ.out _), ?_⟩); go_big_quiet_on)
      | (apply Exists.intro; (with_reducible refine ⟨fun _ => hl_call (KA.out _), ?_⟩); go_big_quiet_on)
      | (apply Exists.intro; (with_reducible refine ⟨fun _ => hl_call (KB.out _), ?_⟩); go_big_quiet_on)
      | (apply Exists.intro; (with_reducible refine ⟨fun _ => hl_call (PA.out _), ?_⟩); go_big_quiet_on)
      | (apply Exists.intro; (with_reducible refine ⟨fun _ => hl_call (PB.out _), ?_⟩); go_big_quiet_on)
      ))
  refine wpQuiet_nil ?_
  intro W4 h4
  have F4 := Lib.hid (Hl.row h4 F3.out)
  have G4 := Lib.hid (Hl.row h4 G3.out)
  have B4 := Lib.hid (B3.out.trans (Below.mono h4 B3.out.size))
  clear F3 G3 B3
  clear h4
  go_wp2_with (first
      | (refine wpList_load_fact rfl _ rfl w.heap.size rfl u cs F4.out ?_)
      | (refine wpList_load_fact rfl _ rfl (w.heap.size + 1) rfl v ct G4.out ?_))
  go_ret
  exact ⟨rfl, B4.out⟩

set_option maxRecDepth 100000 in
set_option maxHeartbeats 4000000 in
theorem mr_6 (u v : Nat → Int) (s t : ByteArray) (w : World) (a : Addr) (hK : Konst w) (hE : ErrK a w) (hs : s.size ≤ 9223372036854775807) (ht : t.size ≤ 9223372036854775807) (h1 : okT u (cutT s) = false) (h2 : eqB u v (cutT s) (cutT t) = true) (h3 : pvB u (cutT s) v (cutT t) = true) :
    Calls Tryd.prog 3 #[.agg (factC u s), .agg (factC v t)] w fun e W' => e = .returned (.bool true) ∧ Below w.heap.size w W' := by
  have hgE : 0 < w.heap.size := World.block_lt_of_cell? w _ hE
  have HK := Lib.hid hK
  have HE := Lib.hid hE
  clear hK hE
  have HS := Lib.hid (fun W (h : Konst W) (h' : ErrK a W) => sane_calls a W h h')
  have HV := Lib.hid (fun W => Valid_calls u (cutT s) W)
  have HW := Lib.hid (fun W => refValid_calls u (cutT s) W)
  have HQ := Lib.hid (fun W => Same_calls u v (cutT s) (cutT t) W)
  have hq := fun W => runEq u v (cutT s) (cutT t) W
  have KA := Lib.hid (fun W => Key_calls u (cutT s) W)
  have KB := Lib.hid (fun W => refKey_calls u (cutT s) W)
  have hk := fun W => key_eql u u true (decide_eq_true ⟨rfl, rfl⟩) W
  have PA := Lib.hid (fun W => Prevails_calls u v (cutT s) (cutT t) W)
  have PB := Lib.hid (fun W => refPrevails_calls u v (cutT s) (cutT t) W)
  rw [h1] at HV HW
  rw [h2] at HQ hq
  rw [h3] at PA PB
  clear h1 h2 h3
  have HCu := Lib.hid (fun W => cut_calls u s W hs)
  have HCv := Lib.hid (fun W => cut_calls v t W ht)
  have honeU := factC_one u (cutT s)
  have honeV := factC_one v (cutT t)
  generalize cutT s = cs at *
  generalize cutT t = ct at *
  go_enter Tryd.func3, Tryd.ntmps3
  go_upto_region 1 with (fail)
  obtain ⟨W0, hW0, f0, f1, b0⟩ := two_rows w (factC u s) (factC v t) 23 23
  rw [hW0]
  clear hW0
  have F0 := Lib.hid f0
  have G0 := Lib.hid f1
  have B0 := Lib.hid b0
  clear f0 f1 b0
  go_wp2_with fail
  refine (HS.out _ (HK.out.keep B0.out) (HE.out.keep B0.out hgE)).mono ?_
  rintro e W1 ⟨rfl, b1⟩
  have F1 := Lib.hid (Hl.row b1 F0.out)
  have G1 := Lib.hid (Hl.row b1 G0.out)
  have B1 := Lib.hid (B0.out.trans (Below.mono b1 B0.out.size))
  clear F0 G0 B0
  clear b1
  go_wp2_with fail
  refine wp_region_hl_tail 4 W1 (Hl.refl _) (by kernel_rfl) (by kernel_rfl) ?_
  simp only [List.take_succ_cons, List.take_zero]
  repeat (first
    | go_big_quiet_skip
    | (go_big_quiet_want; refine quiet_load_row _ rfl _ rfl _ _ F1.out ?_; simp only [Act.put, List.setIfInBounds_toArray, List.set_cons_zero, List.set_cons_succ]; go_big_quiet_on)
    | (go_big_quiet_want; refine quiet_load_row _ rfl _ rfl _ _ G1.out ?_; simp only [Act.put, List.setIfInBounds_toArray, List.set_cons_zero, List.set_cons_succ]; go_big_quiet_on)
    | (go_big_quiet_want; go_big_quiet_op; first
      | go_big_quiet_on
      | (apply Exists.intro; (with_reducible refine ⟨fun _ => hl_call (HCu.out _), ?_⟩); go_big_quiet_on)
      | (apply Exists.intro; (with_reducible refine ⟨fun _ => hl_call (HCv.out _), ?_⟩); go_big_quiet_on)
      ))
  refine wpQuiet_nil ?_
  intro W2 h2
  simp only [List.drop_succ_cons, List.drop_zero]

  have F2 := Lib.hid (Hl.row h2 F1.out)
  have G2 := Lib.hid (Hl.row h2 G1.out)
  have B2 := Lib.hid (B1.out.trans (Below.mono h2 B1.out.size))
  clear h2 F1 G1 B1
  refine wpList_store_row rfl 23 _ _ rfl w.heap.size (factC u cs) rfl rfl 23 _ F2.out (hiC _ _) rfl honeU ?_
  refine wpList_store_row rfl 23 _ _ rfl (w.heap.size + 1) (factC v ct) rfl rfl 23 _ ((setRow_other _ _ _ _ (by omega)).trans G2.out) (hiC _ _) rfl honeV ?_
  obtain ⟨W3, hW3, F3, G3, B3⟩ : ∃ W3, (W2.setRow w.heap.size (factC u cs)).setRow (w.heap.size + 1) (factC v ct) = W3 ∧ Hid (W3.heap[w.heap.size]? = some (.cells (factC u cs) 23 (0, 0))) ∧ Hid (W3.heap[w.heap.size + 1]? = some (.cells (factC v ct) 23 (0, 0))) ∧ Hid (Below w.heap.size w W3) :=
    ⟨_, rfl, Lib.hid ((setRow_other _ _ _ _ (by omega)).trans (setRow_heap _ _ _ _ _ _ F2.out)), Lib.hid (setRow_heap _ _ _ _ _ _ ((setRow_other _ _ _ _ (by omega)).trans G2.out)), Lib.hid (below_setRow' (below_setRow' B2.out _ _ (Nat.le_refl _)) _ _ (by omega))⟩
  rw [hW3]
  clear hW3 F2 G2 B2
  go_wp2_with (first
      | (refine wpList_load_fact rfl _ rfl w.heap.size rfl u cs F3.out ?_)
      | (refine wpList_load_fact rfl _ rfl (w.heap.size + 1) rfl v ct G3.out ?_))
  simp only [Act.put]
  refine wp_region_hl W3 (Hl.refl _) (by kernel_rfl) (by kernel_rfl) ?_
  repeat (first
    | go_big_quiet_skip
    | (go_big_quiet_want; refine quiet_load_row _ rfl _ rfl _ _ F3.out ?_; simp only [Act.put, List.setIfInBounds_toArray, List.set_cons_zero, List.set_cons_succ]; go_big_quiet_on)
    | (go_big_quiet_want; refine quiet_load_row _ rfl _ rfl _ _ G3.out ?_; simp only [Act.put, List.setIfInBounds_toArray, List.set_cons_zero, List.set_cons_succ]; go_big_quiet_on)
    | (go_big_quiet_want; go_big_quiet_op; first
      | go_big_quiet_on
      | (apply Exists.intro; (with_reducible refine ⟨fun _ => hl_call (HV.out _), ?_⟩); go_big_quiet_on)
      | (apply Exists.intro; (with_reducible refine ⟨fun _ => hl_call (HW.out _), ?_⟩); go_big_quiet_on)
      | (apply Exists.intro; (with_reducible refine ⟨fun _ => hl_call (HQ.out _), ?_⟩); go_big_quiet_on)
      | (apply Exists.intro; (with_reducible refine ⟨fun _ => hl_call (KA.out _), ?_⟩); go_big_quiet_on)
      | (apply Exists.intro; (with_reducible refine ⟨fun _ => hl_call (KB.out _), ?_⟩); go_big_quiet_on)
      | (apply Exists.intro; (with_reducible refine ⟨fun _ => hl_call (PA.out _), ?_⟩); go_big_quiet_on)
      | (apply Exists.intro; (with_reducible refine ⟨fun _ => hl_call (PB.out _), ?_⟩); go_big_quiet_on)
      ))
  refine wpQuiet_nil ?_
  intro W4 h4
  have F4 := Lib.hid (Hl.row h4 F3.out)
  have G4 := Lib.hid (Hl.row h4 G3.out)
  have B4 := Lib.hid (B3.out.trans (Below.mono h4 B3.out.size))
  clear F3 G3 B3
  clear h4
  go_wp2_with (first
      | (refine wpList_load_fact rfl _ rfl w.heap.size rfl u cs F4.out ?_)
      | (refine wpList_load_fact rfl _ rfl (w.heap.size + 1) rfl v ct G4.out ?_))
  go_ret
  exact ⟨rfl, B4.out⟩

set_option maxRecDepth 100000 in
set_option maxHeartbeats 4000000 in
theorem mr_7 (u v : Nat → Int) (s t : ByteArray) (w : World) (a : Addr) (hK : Konst w) (hE : ErrK a w) (hs : s.size ≤ 9223372036854775807) (ht : t.size ≤ 9223372036854775807) (h1 : okT u (cutT s) = true) (h2 : eqB u v (cutT s) (cutT t) = true) (h3 : pvB u (cutT s) v (cutT t) = true) :
    Calls Tryd.prog 3 #[.agg (factC u s), .agg (factC v t)] w fun e W' => e = .returned (.bool true) ∧ Below w.heap.size w W' := by
  have hgE : 0 < w.heap.size := World.block_lt_of_cell? w _ hE
  have HK := Lib.hid hK
  have HE := Lib.hid hE
  clear hK hE
  have HS := Lib.hid (fun W (h : Konst W) (h' : ErrK a W) => sane_calls a W h h')
  have HV := Lib.hid (fun W => Valid_calls u (cutT s) W)
  have HW := Lib.hid (fun W => refValid_calls u (cutT s) W)
  have HQ := Lib.hid (fun W => Same_calls u v (cutT s) (cutT t) W)
  have hq := fun W => runEq u v (cutT s) (cutT t) W
  have KA := Lib.hid (fun W => Key_calls u (cutT s) W)
  have KB := Lib.hid (fun W => refKey_calls u (cutT s) W)
  have hk := fun W => key_eql u u true (decide_eq_true ⟨rfl, rfl⟩) W
  have PA := Lib.hid (fun W => Prevails_calls u v (cutT s) (cutT t) W)
  have PB := Lib.hid (fun W => refPrevails_calls u v (cutT s) (cutT t) W)
  rw [h1] at HV HW
  rw [h2] at HQ hq
  rw [h3] at PA PB
  clear h1 h2 h3
  have HCu := Lib.hid (fun W => cut_calls u s W hs)
  have HCv := Lib.hid (fun W => cut_calls v t W ht)
  have honeU := factC_one u (cutT s)
  have honeV := factC_one v (cutT t)
  generalize cutT s = cs at *
  generalize cutT t = ct at *
  go_enter Tryd.func3, Tryd.ntmps3
  go_upto_region 1 with (fail)
  obtain ⟨W0, hW0, f0, f1, b0⟩ := two_rows w (factC u s) (factC v t) 23 23
  rw [hW0]
  clear hW0
  have F0 := Lib.hid f0
  have G0 := Lib.hid f1
  have B0 := Lib.hid b0
  clear f0 f1 b0
  go_wp2_with fail
  refine (HS.out _ (HK.out.keep B0.out) (HE.out.keep B0.out hgE)).mono ?_
  rintro e W1 ⟨rfl, b1⟩
  have F1 := Lib.hid (Hl.row b1 F0.out)
  have G1 := Lib.hid (Hl.row b1 G0.out)
  have B1 := Lib.hid (B0.out.trans (Below.mono b1 B0.out.size))
  clear F0 G0 B0
  clear b1
  go_wp2_with fail
  refine wp_region_hl_tail 4 W1 (Hl.refl _) (by kernel_rfl) (by kernel_rfl) ?_
  simp only [List.take_succ_cons, List.take_zero]
  repeat (first
    | go_big_quiet_skip
    | (go_big_quiet_want; refine quiet_load_row _ rfl _ rfl _ _ F1.out ?_; simp only [Act.put, List.setIfInBounds_toArray, List.set_cons_zero, List.set_cons_succ]; go_big_quiet_on)
    | (go_big_quiet_want; refine quiet_load_row _ rfl _ rfl _ _ G1.out ?_; simp only [Act.put, List.setIfInBounds_toArray, List.set_cons_zero, List.set_cons_succ]; go_big_quiet_on)
    | (go_big_quiet_want; go_big_quiet_op; first
      | go_big_quiet_on
      | (apply Exists.intro; (with_reducible refine ⟨fun _ => hl_call (HCu.out _), ?_⟩); go_big_quiet_on)
      | (apply Exists.intro; (with_reducible refine ⟨fun _ => hl_call (HCv.out _), ?_⟩); go_big_quiet_on)
      ))
  refine wpQuiet_nil ?_
  intro W2 h2
  simp only [List.drop_succ_cons, List.drop_zero]

  have F2 := Lib.hid (Hl.row h2 F1.out)
  have G2 := Lib.hid (Hl.row h2 G1.out)
  have B2 := Lib.hid (B1.out.trans (Below.mono h2 B1.out.size))
  clear h2 F1 G1 B1
  refine wpList_store_row rfl 23 _ _ rfl w.heap.size (factC u cs) rfl rfl 23 _ F2.out (hiC _ _) rfl honeU ?_
  refine wpList_store_row rfl 23 _ _ rfl (w.heap.size + 1) (factC v ct) rfl rfl 23 _ ((setRow_other _ _ _ _ (by omega)).trans G2.out) (hiC _ _) rfl honeV ?_
  obtain ⟨W3, hW3, F3, G3, B3⟩ : ∃ W3, (W2.setRow w.heap.size (factC u cs)).setRow (w.heap.size + 1) (factC v ct) = W3 ∧ Hid (W3.heap[w.heap.size]? = some (.cells (factC u cs) 23 (0, 0))) ∧ Hid (W3.heap[w.heap.size + 1]? = some (.cells (factC v ct) 23 (0, 0))) ∧ Hid (Below w.heap.size w W3) :=
    ⟨_, rfl, Lib.hid ((setRow_other _ _ _ _ (by omega)).trans (setRow_heap _ _ _ _ _ _ F2.out)), Lib.hid (setRow_heap _ _ _ _ _ _ ((setRow_other _ _ _ _ (by omega)).trans G2.out)), Lib.hid (below_setRow' (below_setRow' B2.out _ _ (Nat.le_refl _)) _ _ (by omega))⟩
  rw [hW3]
  clear hW3 F2 G2 B2
  go_wp2_with (first
      | (refine wpList_load_fact rfl _ rfl w.heap.size rfl u cs F3.out ?_)
      | (refine wpList_load_fact rfl _ rfl (w.heap.size + 1) rfl v ct G3.out ?_))
  simp only [Act.put]
  refine wp_region_hl W3 (Hl.refl _) (by kernel_rfl) (by kernel_rfl) ?_
  repeat (first
    | go_big_quiet_skip
    | (go_big_quiet_want; refine quiet_load_row _ rfl _ rfl _ _ F3.out ?_; simp only [Act.put, List.setIfInBounds_toArray, List.set_cons_zero, List.set_cons_succ]; go_big_quiet_on)
    | (go_big_quiet_want; refine quiet_load_row _ rfl _ rfl _ _ G3.out ?_; simp only [Act.put, List.setIfInBounds_toArray, List.set_cons_zero, List.set_cons_succ]; go_big_quiet_on)
    | (go_big_quiet_want; go_big_quiet_op; first
      | go_big_quiet_on
      | (apply Exists.intro; (with_reducible refine ⟨fun _ => hl_call (HV.out _), ?_⟩); go_big_quiet_on)
      | (apply Exists.intro; (with_reducible refine ⟨fun _ => hl_call (HW.out _), ?_⟩); go_big_quiet_on)
      | (apply Exists.intro; (with_reducible refine ⟨fun _ => hl_call (HQ.out _), ?_⟩); go_big_quiet_on)
      | (apply Exists.intro; (with_reducible refine ⟨fun _ => hl_call (KA.out _), ?_⟩); go_big_quiet_on)
      | (apply Exists.intro; (with_reducible refine ⟨fun _ => hl_call (KB.out _), ?_⟩); go_big_quiet_on)
      | (apply Exists.intro; (with_reducible refine ⟨fun _ => hl_call (PA.out _), ?_⟩); go_big_quiet_on)
      | (apply Exists.intro; (with_reducible refine ⟨fun _ => hl_call (PB.out _), ?_⟩); go_big_quiet_on)
      ))
  refine wpQuiet_nil ?_
  intro W4 h4
  have F4 := Lib.hid (Hl.row h4 F3.out)
  have G4 := Lib.hid (Hl.row h4 G3.out)
  have B4 := Lib.hid (B3.out.trans (Below.mono h4 B3.out.size))
  clear F3 G3 B3
  clear h4
  go_wp2_with (first
      | (refine wpList_load_fact rfl _ rfl w.heap.size rfl u cs F4.out ?_)
      | (refine wpList_load_fact rfl _ rfl (w.heap.size + 1) rfl v ct G4.out ?_))
  go_ret
  exact ⟨rfl, B4.out⟩

theorem mr_walk (u : Nat → Int) (s : ByteArray) (v : Nat → Int) (t : ByteArray) (w : World) (a : Addr) (hK : Konst w) (hE : ErrK a w) (_ : Ints u) (hs : s.size ≤ 9223372036854775807) (_ : Ints v) (ht : t.size ≤ 9223372036854775807) :
    Calls Tryd.prog 3 #[.agg (factC u s), .agg (factC v t)] w fun e W' => e = .returned (.bool true) ∧ Below w.heap.size w W' := by
  rcases h1 : okT u (cutT s) with _ | _ <;> rcases h2 : eqB u v (cutT s) (cutT t) with _ | _ <;> rcases h3 : pvB u (cutT s) v (cutT t) with _ | _
  · exact mr_0 u v s t w a hK hE hs ht h1 h2 h3
  · exact mr_4 u v s t w a hK hE hs ht h1 h2 h3
  · exact mr_2 u v s t w a hK hE hs ht h1 h2 h3
  · exact mr_6 u v s t w a hK hE hs ht h1 h2 h3
  · exact mr_1 u v s t w a hK hE hs ht h1 h2 h3
  · exact mr_5 u v s t w a hK hE hs ht h1 h2 h3
  · exact mr_3 u v s t w a hK hE hs ht h1 h2 h3
  · exact mr_7 u v s t w a hK hE hs ht h1 h2 h3

set_option maxRecDepth 100000 in
set_option maxHeartbeats 4000000 in
theorem em_walk (v : Nat → Int) (t : ByteArray) (w : World) (a : Addr) (hK : Konst w) (hE : ErrK a w) (_ : Ints v) (ht : t.size ≤ 9223372036854775807) :
    Calls Tryd.prog 4 #[.agg (factC v t)] w fun e W' => e = .returned (.bool true) ∧ Below w.heap.size w W' := by
  have hgE : 0 < w.heap.size := World.block_lt_of_cell? w _ hE
  have HK := Lib.hid hK
  have HE := Lib.hid hE
  clear hK hE
  have HS := Lib.hid (fun W (h : Konst W) (h' : ErrK a W) => sane_calls a W h h')
  have HC := Lib.hid (fun W => cut_calls v t W ht)
  have CA := Lib.hid (fun W => Encode_calls v (cutT t) W)
  have CB := Lib.hid (fun W => refEncode_calls v (cutT t) W)
  have CI := Lib.hid (fun W (h : Konst W) => ID_calls v (cutT t) W h)
  have CJ := Lib.hid (fun W => refID_calls v (cutT t) W)
  generalize codeF v (cutT t) = S at *
  generalize errF v (cutT t) = er at *
  generalize idF v (cutT t) = D at *
  generalize cutT t = ct at *
  go_enter Tryd.func4, Tryd.ntmps4
  go_upto_region 1 with (fail)
  obtain ⟨W0, hW0, f0, b0⟩ := one_row w (factC v t) 23
  rw [hW0]
  clear hW0
  have P0 := Lib.hid f0
  have B0 := Lib.hid b0
  clear f0 b0
  go_wp2_with (first
      | (refine wpList_load_fact rfl _ rfl w.heap.size rfl v t P0.out ?_))
  refine (HS.out _ (HK.out.keep B0.out) (HE.out.keep B0.out hgE)).mono ?_
  rintro e W1 ⟨rfl, b1⟩
  have P1 := Lib.hid (Hl.row b1 P0.out)
  have B1 := Lib.hid (B0.out.trans (Below.mono b1 B0.out.size))
  clear P0 B0
  clear b1
  go_wp2_with (first
      | (refine wpList_load_fact rfl _ rfl w.heap.size rfl v t P1.out ?_))
  refine (HC.out _).mono ?_
  rintro e W2 ⟨rfl, b2⟩
  have P2 := Lib.hid (Hl.row b2 P1.out)
  have B2 := Lib.hid (B1.out.trans (Below.mono b2 B1.out.size))
  clear P1 B1
  clear b2
  have honeP := factC_one v ct
  go_upto_region 3 with (first
      | (refine wpList_store_row rfl 23 _ _ rfl w.heap.size (factC v ct) rfl rfl 23 _ P2.out (hiC _ _) rfl honeP ?_)
      | (refine wpList_load_fact rfl _ rfl w.heap.size rfl v t P2.out ?_))
  obtain ⟨W3, hW3, P3, B3⟩ : ∃ W3, W2.setRow w.heap.size (factC v ct) = W3 ∧ Hid (W3.heap[w.heap.size]? = some (.cells (factC v ct) 23 (0, 0))) ∧ Hid (Below w.heap.size w W3) :=
    ⟨_, rfl, Lib.hid (setRow_heap _ _ _ _ _ _ P2.out), Lib.hid (below_setRow' B2.out _ _ (Nat.le_refl _))⟩
  rw [hW3]
  clear hW3 P2 B2
  go_wp2_with (first
      | (refine wpList_load_fact rfl _ rfl w.heap.size rfl v ct P3.out ?_))
  refine (CA.out _).mono ?_
  rintro e W4 ⟨rfl, b4⟩
  have P4 := Lib.hid (Hl.row b4 P3.out)
  have B4 := Lib.hid (B3.out.trans (Below.mono b4 B3.out.size))
  clear P3 B3
  clear b4
  go_wp2_with (first
      | (refine wpList_load_fact rfl _ rfl w.heap.size rfl v ct P4.out ?_))
  refine (CB.out _).mono ?_
  rintro e W5 ⟨rfl, b5⟩
  have P5 := Lib.hid (Hl.row b5 P4.out)
  have B5 := Lib.hid (B4.out.trans (Below.mono b5 B4.out.size))
  clear P4 B4
  clear b5
  go_wp2_with (first
      | (refine wpList_load_fact rfl _ rfl w.heap.size rfl v ct P5.out ?_))
  refine (CI.out _ (HK.out.keep B5.out)).mono ?_
  rintro e W6 ⟨rfl, b6⟩
  have P6 := Lib.hid (Hl.row b6 P5.out)
  have B6 := Lib.hid (B5.out.trans (Below.mono b6 B5.out.size))
  clear P5 B5
  clear b6
  go_wp2_with (first
      | (refine wpList_load_fact rfl _ rfl w.heap.size rfl v ct P6.out ?_))
  refine (CJ.out _).mono ?_
  rintro e W7 ⟨rfl, b7⟩
  have P7 := Lib.hid (Hl.row b7 P6.out)
  have B7 := Lib.hid (B6.out.trans (Below.mono b7 B6.out.size))
  clear P6 B6
  clear b7
  go_wp2_with (first
      | (refine wpList_load_fact rfl _ rfl w.heap.size rfl v ct P7.out ?_))
  go_ret
  exact ⟨rfl, B7.out⟩

end Go.Proofs.YtnbeebndcgoalaaDoor
