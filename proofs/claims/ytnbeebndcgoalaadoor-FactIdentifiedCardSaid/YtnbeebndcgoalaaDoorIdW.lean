/- The walk of FactIdentified. Conditions: the table of constants reads as the program lays it; the variable errForm holds an error of its own. -/
import Derived.Test.YtnbeebndcgoalaaDoorRtW
namespace Go.Proofs.YtnbeebndcgoalaaDoor
open Go.RowKit
theorem runNe (u v : Nat → Int) (s t : ByteArray) (W : World) : (binOp .neq 23 (.agg (factC u s)) (.agg (factC v t))).run Tryd.prog W = .ok (.bool (!eqB u v s t)) W := by
  rw [run_neq_struct, eqFact]
  rfl

set_option maxRecDepth 100000 in
set_option maxHeartbeats 4000000 in
theorem id_bad (u v : Nat → Int) (s t : ByteArray) (w : World) (a : Addr) (hK : Konst w) (hE : ErrK a w) (hs : s.size ≤ 9223372036854775807) (ht : t.size ≤ 9223372036854775807) (hoku : okT u (cutT s) = false) :
    Calls Tryd.prog 10 #[.agg (factC u s), .agg (factC v t)] w fun e W' => e = .returned (.bool true) ∧ Below w.heap.size w W' := by
  have hgE : 0 < w.heap.size := World.block_lt_of_cell? w _ hE
  have HK := Lib.hid hK
  have HE := Lib.hid hE
  clear hK hE
  have HS := Lib.hid (fun W (h : Konst W) (h' : ErrK a W) => sane_calls a W h h')
  have CIu : Hid (∀ W, Konst W → Calls Tryd.prog 23 #[.agg (factC u (cutT s))] W fun e W' => e = .returned (.tuple #[.string ⟨#[]⟩, .int .i64 50]) ∧ Below W.heap.size W W') := Lib.hid (fun W hK => by
    have h := ID_calls u (cutT s) W hK
    rw [show idF u (cutT s) = [] by unfold idF; rw [hoku]; rfl, show errF u (cutT s) = 50 by unfold errF; rw [hoku]; rfl] at h
    exact h)
  have CIv := Lib.hid (fun W (h : Konst W) => ID_calls v (cutT t) W h)
  have HV := Lib.hid (fun W => Valid_eq u (cutT s) false hoku W)
  clear hoku
  generalize idF v (cutT t) = T at *
  generalize errF v (cutT t) = ev at *
  have HCu := Lib.hid (fun W => cut_calls u s W hs)
  have HCv := Lib.hid (fun W => cut_calls v t W ht)
  have honeU := factC_one u (cutT s)
  have honeV := factC_one v (cutT t)
  generalize cutT s = cs at *
  generalize cutT t = ct at *
  go_enter Tryd.func10, Tryd.ntmps10
  go_upto_region 1 with (fail)
  obtain ⟨W0, hW0, f0, f1, b0⟩ := two_rows w (factC u s) (factC v t) 23 23
  rw [hW0]
  clear hW0
  have F0 := Lib.hid f0
  have G0 := Lib.hid f1
  have B0 := Lib.hid b0
  clear f0 f1 b0
  go_wp2_with fail
  refine (HS.out _ (HK.out.keep B0.out) (HE.out.keep B0.out hgE)).mono ?_
  rintro e W1 ⟨rfl, b1⟩
  have F1 := Lib.hid (Hl.row b1 F0.out)
  have G1 := Lib.hid (Hl.row b1 G0.out)
  have B1 := Lib.hid (B0.out.trans (Below.mono b1 B0.out.size))
  clear F0 G0 B0
  clear b1
  go_wp2_with fail
  refine wp_region_hl_tail 4 W1 (Hl.refl _) (by kernel_rfl) (by kernel_rfl) ?_
  simp only [List.take_succ_cons, List.take_zero]
  repeat (first
    | go_big_quiet_skip
    | (go_big_quiet_want; refine quiet_load_row _ rfl _ rfl _ _ F1.out ?_; simp only [Act.put, List.setIfInBounds_toArray, List.set_cons_zero, List.set_cons_succ]; go_big_quiet_on)
    | (go_big_quiet_want; refine quiet_load_row _ rfl _ rfl _ _ G1.out ?_; simp only [Act.put, List.setIfInBounds_toArray, List.set_cons_zero, List.set_cons_succ]; go_big_quiet_on)
    | (go_big_quiet_want; go_big_quiet_op; first
      | go_big_quiet_on
      | (apply Exists.intro; (with_reducible refine ⟨fun _ => hl_call (HCu.out _), ?_⟩); go_big_quiet_on)
      | (apply Exists.intro; (with_reducible refine ⟨fun _ => hl_call (HCv.out _), ?_⟩); go_big_quiet_on)
      ))
  refine wpQuiet_nil ?_
  intro W2 h2
  simp only [List.drop_succ_cons, List.drop_zero]

  have F2 := Lib.hid (Hl.row h2 F1.out)
  have G2 := Lib.hid (Hl.row h2 G1.out)
  have B2 := Lib.hid (B1.out.trans (Below.mono h2 B1.out.size))
  clear h2 F1 G1 B1
  refine wpList_store_row rfl 23 _ _ rfl w.heap.size (factC u cs) rfl rfl 23 _ F2.out (hiC _ _) rfl honeU ?_
  refine wpList_store_row rfl 23 _ _ rfl (w.heap.size + 1) (factC v ct) rfl rfl 23 _ ((setRow_other _ _ _ _ (by omega)).trans G2.out) (hiC _ _) rfl honeV ?_
  obtain ⟨W3, hW3, F3, G3, B3⟩ : ∃ W3, (W2.setRow w.heap.size (factC u cs)).setRow (w.heap.size + 1) (factC v ct) = W3 ∧ Hid (W3.heap[w.heap.size]? = some (.cells (factC u cs) 23 (0, 0))) ∧ Hid (W3.heap[w.heap.size + 1]? = some (.cells (factC v ct) 23 (0, 0))) ∧ Hid (Below w.heap.size w W3) :=
    ⟨_, rfl, Lib.hid ((setRow_other _ _ _ _ (by omega)).trans (setRow_heap _ _ _ _ _ _ F2.out)), Lib.hid (setRow_heap _ _ _ _ _ _ ((setRow_other _ _ _ _ (by omega)).trans G2.out)), Lib.hid (below_setRow' (below_setRow' B2.out _ _ (Nat.le_refl _)) _ _ (by omega))⟩
  rw [hW3]
  clear hW3 F2 G2 B2
  go_wp2_with (first
      | (refine wpList_load_fact rfl _ rfl w.heap.size rfl u cs F3.out ?_)
      | (refine wpList_load_fact rfl _ rfl (w.heap.size + 1) rfl v ct G3.out ?_))
  refine (CIu.out _ (HK.out.keep B3.out)).mono ?_
  rintro e W4 ⟨rfl, b4⟩
  have F4 := Lib.hid (Hl.row b4 F3.out)
  have G4 := Lib.hid (Hl.row b4 G3.out)
  have B4 := Lib.hid (B3.out.trans (Below.mono b4 B3.out.size))
  clear F3 G3 B3
  clear b4
  go_wp2_with (first
      | (refine wpList_load_fact rfl _ rfl w.heap.size rfl u cs F4.out ?_)
      | (refine wpList_load_fact rfl _ rfl (w.heap.size + 1) rfl v ct G4.out ?_))
  refine (CIv.out _ (HK.out.keep B4.out)).mono ?_
  rintro e W5 ⟨rfl, b5⟩
  have F5 := Lib.hid (Hl.row b5 F4.out)
  have G5 := Lib.hid (Hl.row b5 G4.out)
  have B5 := Lib.hid (B4.out.trans (Below.mono b5 B4.out.size))
  clear F4 G4 B4
  clear b5
  go_wp2_with (first
      | (refine wpList_load_fact rfl _ rfl w.heap.size rfl u cs F5.out ?_)
      | (refine wpList_load_fact rfl _ rfl (w.heap.size + 1) rfl v ct G5.out ?_))
  refine (HV.out _).mono ?_
  rintro e W6 ⟨rfl, b6⟩
  have F6 := Lib.hid (Hl.row b6 F5.out)
  have G6 := Lib.hid (Hl.row b6 G5.out)
  have B6 := Lib.hid (B5.out.trans (Below.mono b6 B5.out.size))
  clear F5 G5 B5
  clear b6
  go_wp2_with (first
      | (refine wpList_load_fact rfl _ rfl w.heap.size rfl u cs F6.out ?_)
      | (refine wpList_load_fact rfl _ rfl (w.heap.size + 1) rfl v ct G6.out ?_))
  go_ret
  exact ⟨rfl, B6.out⟩

set_option maxRecDepth 100000 in
set_option maxHeartbeats 4000000 in
theorem id_half (u v : Nat → Int) (s t : ByteArray) (w : World) (a : Addr) (hK : Konst w) (hE : ErrK a w) (hs : s.size ≤ 9223372036854775807) (ht : t.size ≤ 9223372036854775807) (hoku : okT u (cutT s) = true) (hokv : okT v (cutT t) = false) :
    Calls Tryd.prog 10 #[.agg (factC u s), .agg (factC v t)] w fun e W' => e = .returned (.bool true) ∧ Below w.heap.size w W' := by
  have hgE : 0 < w.heap.size := World.block_lt_of_cell? w _ hE
  have HK := Lib.hid hK
  have HE := Lib.hid hE
  clear hK hE
  have HS := Lib.hid (fun W (h : Konst W) (h' : ErrK a W) => sane_calls a W h h')
  have CIu : Hid (∀ W, Konst W → Calls Tryd.prog 23 #[.agg (factC u (cutT s))] W fun e W' => e = .returned (.tuple #[.string ⟨(shaF (encV u (cutT s).data.toList)).toArray⟩, .int .i64 0]) ∧ Below W.heap.size W W') := Lib.hid (fun W hK => by
    have h := ID_calls u (cutT s) W hK
    rw [show idF u (cutT s) = shaF (encV u (cutT s).data.toList) by unfold idF; rw [hoku]; rfl, show errF u (cutT s) = 0 by unfold errF; rw [hoku]; rfl] at h
    exact h)
  have LCIu : (⟨(shaF (encV u (cutT s).data.toList)).toArray⟩ : ByteArray).size = 32 := shaF_length _
  have CIv : Hid (∀ W, Konst W → Calls Tryd.prog 23 #[.agg (factC v (cutT t))] W fun e W' => e = .returned (.tuple #[.string ⟨#[]⟩, .int .i64 50]) ∧ Below W.heap.size W W') := Lib.hid (fun W hK => by
    have h := ID_calls v (cutT t) W hK
    rw [show idF v (cutT t) = [] by unfold idF; rw [hokv]; rfl, show errF v (cutT t) = 50 by unfold errF; rw [hokv]; rfl] at h
    exact h)
  have HV := Lib.hid (fun W => Valid_eq u (cutT s) true hoku W)
  clear hoku hokv
  generalize (⟨(shaF (encV u (cutT s).data.toList)).toArray⟩ : ByteArray) = D at *
  have HCu := Lib.hid (fun W => cut_calls u s W hs)
  have HCv := Lib.hid (fun W => cut_calls v t W ht)
  have honeU := factC_one u (cutT s)
  have honeV := factC_one v (cutT t)
  generalize cutT s = cs at *
  generalize cutT t = ct at *
  go_enter Tryd.func10, Tryd.ntmps10
  go_upto_region 1 with (fail)
  obtain ⟨W0, hW0, f0, f1, b0⟩ := two_rows w (factC u s) (factC v t) 23 23
  rw [hW0]
  clear hW0
  have F0 := Lib.hid f0
  have G0 := Lib.hid f1
  have B0 := Lib.hid b0
  clear f0 f1 b0
  go_wp2_with fail
  refine (HS.out _ (HK.out.keep B0.out) (HE.out.keep B0.out hgE)).mono ?_
  rintro e W1 ⟨rfl, b1⟩
  have F1 := Lib.hid (Hl.row b1 F0.out)
  have G1 := Lib.hid (Hl.row b1 G0.out)
  have B1 := Lib.hid (B0.out.trans (Below.mono b1 B0.out.size))
  clear F0 G0 B0
  clear b1
  go_wp2_with fail
  refine wp_region_hl_tail 4 W1 (Hl.refl _) (by kernel_rfl) (by kernel_rfl) ?_
  simp only [List.take_succ_cons, List.take_zero]
  repeat (first
    | go_big_quiet_skip
    | (go_big_quiet_want; refine quiet_load_row _ rfl _ rfl _ _ F1.out ?_; simp only [Act.put, List.setIfInBounds_toArray, List.set_cons_zero, List.set_cons_succ]; go_big_quiet_on)
    | (go_big_quiet_want; refine quiet_load_row _ rfl _ rfl _ _ G1.out ?_; simp only [Act.put, List.setIfInBounds_toArray, List.set_cons_zero, List.set_cons_succ]; go_big_quiet_on)
    | (go_big_quiet_want; go_big_quiet_op; first
      | go_big_quiet_on
      | (apply Exists.intro; (with_reducible refine ⟨fun _ => hl_call (HCu.out _), ?_⟩); go_big_quiet_on)
      | (apply Exists.intro; (with_reducible refine ⟨fun _ => hl_call (HCv.out _), ?_⟩); go_big_quiet_on)
      ))
  refine wpQuiet_nil ?_
  intro W2 h2
  simp only [List.drop_succ_cons, List.drop_zero]

  have F2 := Lib.hid (Hl.row h2 F1.out)
  have G2 := Lib.hid (Hl.row h2 G1.out)
  have B2 := Lib.hid (B1.out.trans (Below.mono h2 B1.out.size))
  clear h2 F1 G1 B1
  refine wpList_store_row rfl 23 _ _ rfl w.heap.size (factC u cs) rfl rfl 23 _ F2.out (hiC _ _) rfl honeU ?_
  refine wpList_store_row rfl 23 _ _ rfl (w.heap.size + 1) (factC v ct) rfl rfl 23 _ ((setRow_other _ _ _ _ (by omega)).trans G2.out) (hiC _ _) rfl honeV ?_
  obtain ⟨W3, hW3, F3, G3, B3⟩ : ∃ W3, (W2.setRow w.heap.size (factC u cs)).setRow (w.heap.size + 1) (factC v ct) = W3 ∧ Hid (W3.heap[w.heap.size]? = some (.cells (factC u cs) 23 (0, 0))) ∧ Hid (W3.heap[w.heap.size + 1]? = some (.cells (factC v ct) 23 (0, 0))) ∧ Hid (Below w.heap.size w W3) :=
    ⟨_, rfl, Lib.hid ((setRow_other _ _ _ _ (by omega)).trans (setRow_heap _ _ _ _ _ _ F2.out)), Lib.hid (setRow_heap _ _ _ _ _ _ ((setRow_other _ _ _ _ (by omega)).trans G2.out)), Lib.hid (below_setRow' (below_setRow' B2.out _ _ (Nat.le_refl _)) _ _ (by omega))⟩
  rw [hW3]
  clear hW3 F2 G2 B2
  go_wp2_with (first
      | (refine wpList_load_fact rfl _ rfl w.heap.size rfl u cs F3.out ?_)
      | (refine wpList_load_fact rfl _ rfl (w.heap.size + 1) rfl v ct G3.out ?_))
  refine (CIu.out _ (HK.out.keep B3.out)).mono ?_
  rintro e W4 ⟨rfl, b4⟩
  have F4 := Lib.hid (Hl.row b4 F3.out)
  have G4 := Lib.hid (Hl.row b4 G3.out)
  have B4 := Lib.hid (B3.out.trans (Below.mono b4 B3.out.size))
  clear F3 G3 B3
  clear b4
  go_wp2_with (first
      | (refine wpList_load_fact rfl _ rfl w.heap.size rfl u cs F4.out ?_)
      | (refine wpList_load_fact rfl _ rfl (w.heap.size + 1) rfl v ct G4.out ?_))
  refine (CIv.out _ (HK.out.keep B4.out)).mono ?_
  rintro e W5 ⟨rfl, b5⟩
  have F5 := Lib.hid (Hl.row b5 F4.out)
  have G5 := Lib.hid (Hl.row b5 G4.out)
  have B5 := Lib.hid (B4.out.trans (Below.mono b5 B4.out.size))
  clear F4 G4 B4
  clear b5
  go_wp2_with (first
      | (refine wpList_load_fact rfl _ rfl w.heap.size rfl u cs F5.out ?_)
      | (refine wpList_load_fact rfl _ rfl (w.heap.size + 1) rfl v ct G5.out ?_))
  refine (HV.out _).mono ?_
  rintro e W6 ⟨rfl, b6⟩
  have F6 := Lib.hid (Hl.row b6 F5.out)
  have G6 := Lib.hid (Hl.row b6 G5.out)
  have B6 := Lib.hid (B5.out.trans (Below.mono b6 B5.out.size))
  clear F5 G5 B5
  clear b6
  go_wp2_with (first
      | (refine wpList_load_fact rfl _ rfl w.heap.size rfl u cs F6.out ?_)
      | (refine wpList_load_fact rfl _ rfl (w.heap.size + 1) rfl v ct G6.out ?_))
  go_ret
  exact ⟨rfl, B6.out⟩

set_option maxRecDepth 100000 in
set_option maxHeartbeats 4000000 in
theorem id_far (u v : Nat → Int) (s t : ByteArray) (w : World) (a : Addr) (hK : Konst w) (hE : ErrK a w) (hs : s.size ≤ 9223372036854775807) (ht : t.size ≤ 9223372036854775807) (hoku : okT u (cutT s) = true) (hokv : okT v (cutT t) = true) (hd : (shaF (encV u (cutT s).data.toList) == shaF (encV v (cutT t).data.toList)) = false) :
    Calls Tryd.prog 10 #[.agg (factC u s), .agg (factC v t)] w fun e W' => e = .returned (.bool true) ∧ Below w.heap.size w W' := by
  have hgE : 0 < w.heap.size := World.block_lt_of_cell? w _ hE
  have HK := Lib.hid hK
  have HE := Lib.hid hE
  clear hK hE
  have HS := Lib.hid (fun W (h : Konst W) (h' : ErrK a W) => sane_calls a W h h')
  have CIu : Hid (∀ W, Konst W → Calls Tryd.prog 23 #[.agg (factC u (cutT s))] W fun e W' => e = .returned (.tuple #[.string ⟨(shaF (encV u (cutT s).data.toList)).toArray⟩, .int .i64 0]) ∧ Below W.heap.size W W') := Lib.hid (fun W hK => by
    have h := ID_calls u (cutT s) W hK
    rw [show idF u (cutT s) = shaF (encV u (cutT s).data.toList) by unfold idF; rw [hoku]; rfl, show errF u (cutT s) = 0 by unfold errF; rw [hoku]; rfl] at h
    exact h)
  have LCIu : (⟨(shaF (encV u (cutT s).data.toList)).toArray⟩ : ByteArray).size = 32 := shaF_length _
  have CIv : Hid (∀ W, Konst W → Calls Tryd.prog 23 #[.agg (factC v (cutT t))] W fun e W' => e = .returned (.tuple #[.string ⟨(shaF (encV v (cutT t).data.toList)).toArray⟩, .int .i64 0]) ∧ Below W.heap.size W W') := Lib.hid (fun W hK => by
    have h := ID_calls v (cutT t) W hK
    rw [show idF v (cutT t) = shaF (encV v (cutT t).data.toList) by unfold idF; rw [hokv]; rfl, show errF v (cutT t) = 0 by unfold errF; rw [hokv]; rfl] at h
    exact h)
  have LCIv : (⟨(shaF (encV v (cutT t).data.toList)).toArray⟩ : ByteArray).size = 32 := shaF_length _
  have HV := Lib.hid (fun W => Valid_eq u (cutT s) true hoku W)
  have hDD := code_lists (shaF (encV u (cutT s).data.toList)) (shaF (encV v (cutT t).data.toList))
  rw [hd] at hDD
  clear hd
  clear hoku hokv
  generalize (⟨(shaF (encV u (cutT s).data.toList)).toArray⟩ : ByteArray) = D at *
  generalize (⟨(shaF (encV v (cutT t).data.toList)).toArray⟩ : ByteArray) = E at *
  have HCu := Lib.hid (fun W => cut_calls u s W hs)
  have HCv := Lib.hid (fun W => cut_calls v t W ht)
  have honeU := factC_one u (cutT s)
  have honeV := factC_one v (cutT t)
  generalize cutT s = cs at *
  generalize cutT t = ct at *
  go_enter Tryd.func10, Tryd.ntmps10
  go_upto_region 1 with (fail)
  obtain ⟨W0, hW0, f0, f1, b0⟩ := two_rows w (factC u s) (factC v t) 23 23
  rw [hW0]
  clear hW0
  have F0 := Lib.hid f0
  have G0 := Lib.hid f1
  have B0 := Lib.hid b0
  clear f0 f1 b0
  go_wp2_with fail
  refine (HS.out _ (HK.out.keep B0.out) (HE.out.keep B0.out hgE)).mono ?_
  rintro e W1 ⟨rfl, b1⟩
  have F1 := Lib.hid (Hl.row b1 F0.out)
  have G1 := Lib.hid (Hl.row b1 G0.out)
  have B1 := Lib.hid (B0.out.trans (Below.mono b1 B0.out.size))
  clear F0 G0 B0
  clear b1
  go_wp2_with fail
  refine wp_region_hl_tail 4 W1 (Hl.refl _) (by kernel_rfl) (by kernel_rfl) ?_
  simp only [List.take_succ_cons, List.take_zero]
  repeat (first
    | go_big_quiet_skip
    | (go_big_quiet_want; refine quiet_load_row _ rfl _ rfl _ _ F1.out ?_; simp only [Act.put, List.setIfInBounds_toArray, List.set_cons_zero, List.set_cons_succ]; go_big_quiet_on)
    | (go_big_quiet_want; refine quiet_load_row _ rfl _ rfl _ _ G1.out ?_; simp only [Act.put, List.setIfInBounds_toArray, List.set_cons_zero, List.set_cons_succ]; go_big_quiet_on)
    | (go_big_quiet_want; go_big_quiet_op; first
      | go_big_quiet_on
      | (apply Exists.intro; (with_reducible refine ⟨fun _ => hl_call (HCu.out _), ?_⟩); go_big_quiet_on)
      | (apply Exists.intro; (with_reducible refine ⟨fun _ => hl_call (HCv.out _), ?_⟩); go_big_quiet_on)
      ))
  refine wpQuiet_nil ?_
  intro W2 h2
  simp only [List.drop_succ_cons, List.drop_zero]

  have F2 := Lib.hid (Hl.row h2 F1.out)
  have G2 := Lib.hid (Hl.row h2 G1.out)
  have B2 := Lib.hid (B1.out.trans (Below.mono h2 B1.out.size))
  clear h2 F1 G1 B1
  refine wpList_store_row rfl 23 _ _ rfl w.heap.size (factC u cs) rfl rfl 23 _ F2.out (hiC _ _) rfl honeU ?_
  refine wpList_store_row rfl 23 _ _ rfl (w.heap.size + 1) (factC v ct) rfl rfl 23 _ ((setRow_other _ _ _ _ (by omega)).trans G2.out) (hiC _ _) rfl honeV ?_
  obtain ⟨W3, hW3, F3, G3, B3⟩ : ∃ W3, (W2.setRow w.heap.size (factC u cs)).setRow (w.heap.size + 1) (factC v ct) = W3 ∧ Hid (W3.heap[w.heap.size]? = some (.cells (factC u cs) 23 (0, 0))) ∧ Hid (W3.heap[w.heap.size + 1]? = some (.cells (factC v ct) 23 (0, 0))) ∧ Hid (Below w.heap.size w W3) :=
    ⟨_, rfl, Lib.hid ((setRow_other _ _ _ _ (by omega)).trans (setRow_heap _ _ _ _ _ _ F2.out)), Lib.hid (setRow_heap _ _ _ _ _ _ ((setRow_other _ _ _ _ (by omega)).trans G2.out)), Lib.hid (below_setRow' (below_setRow' B2.out _ _ (Nat.le_refl _)) _ _ (by omega))⟩
  rw [hW3]
  clear hW3 F2 G2 B2
  go_wp2_with (first
      | (refine wpList_load_fact rfl _ rfl w.heap.size rfl u cs F3.out ?_)
      | (refine wpList_load_fact rfl _ rfl (w.heap.size + 1) rfl v ct G3.out ?_))
  refine (CIu.out _ (HK.out.keep B3.out)).mono ?_
  rintro e W4 ⟨rfl, b4⟩
  have F4 := Lib.hid (Hl.row b4 F3.out)
  have G4 := Lib.hid (Hl.row b4 G3.out)
  have B4 := Lib.hid (B3.out.trans (Below.mono b4 B3.out.size))
  clear F3 G3 B3
  clear b4
  go_wp2_with (first
      | (refine wpList_load_fact rfl _ rfl w.heap.size rfl u cs F4.out ?_)
      | (refine wpList_load_fact rfl _ rfl (w.heap.size + 1) rfl v ct G4.out ?_))
  refine (CIv.out _ (HK.out.keep B4.out)).mono ?_
  rintro e W5 ⟨rfl, b5⟩
  have F5 := Lib.hid (Hl.row b5 F4.out)
  have G5 := Lib.hid (Hl.row b5 G4.out)
  have B5 := Lib.hid (B4.out.trans (Below.mono b5 B4.out.size))
  clear F4 G4 B4
  clear b5
  go_wp2_with (first
      | (refine wpList_load_fact rfl _ rfl w.heap.size rfl u cs F5.out ?_)
      | (refine wpList_load_fact rfl _ rfl (w.heap.size + 1) rfl v ct G5.out ?_))
  refine (HV.out _).mono ?_
  rintro e W6 ⟨rfl, b6⟩
  have F6 := Lib.hid (Hl.row b6 F5.out)
  have G6 := Lib.hid (Hl.row b6 G5.out)
  have B6 := Lib.hid (B5.out.trans (Below.mono b6 B5.out.size))
  clear F5 G5 B5
  clear b6
  go_wp2_with (first
      | (refine wpList_load_fact rfl _ rfl w.heap.size rfl u cs F6.out ?_)
      | (refine wpList_load_fact rfl _ rfl (w.heap.size + 1) rfl v ct G6.out ?_))
  go_ret
  exact ⟨rfl, B6.out⟩

set_option maxRecDepth 100000 in
set_option maxHeartbeats 4000000 in
theorem id_eq (u v : Nat → Int) (s t : ByteArray) (w : World) (a : Addr) (hK : Konst w) (hE : ErrK a w) (hs : s.size ≤ 9223372036854775807) (ht : t.size ≤ 9223372036854775807) (hoku : okT u (cutT s) = true) (hokv : okT v (cutT t) = true) (hd : (shaF (encV u (cutT s).data.toList) == shaF (encV v (cutT t).data.toList)) = true) (hc : eqB u v (cutT s) (cutT t) = true) :
    Calls Tryd.prog 10 #[.agg (factC u s), .agg (factC v t)] w fun e W' => e = .returned (.bool true) ∧ Below w.heap.size w W' := by
  have hgE : 0 < w.heap.size := World.block_lt_of_cell? w _ hE
  have HK := Lib.hid hK
  have HE := Lib.hid hE
  clear hK hE
  have HS := Lib.hid (fun W (h : Konst W) (h' : ErrK a W) => sane_calls a W h h')
  have CIu : Hid (∀ W, Konst W → Calls Tryd.prog 23 #[.agg (factC u (cutT s))] W fun e W' => e = .returned (.tuple #[.string ⟨(shaF (encV u (cutT s).data.toList)).toArray⟩, .int .i64 0]) ∧ Below W.heap.size W W') := Lib.hid (fun W hK => by
    have h := ID_calls u (cutT s) W hK
    rw [show idF u (cutT s) = shaF (encV u (cutT s).data.toList) by unfold idF; rw [hoku]; rfl, show errF u (cutT s) = 0 by unfold errF; rw [hoku]; rfl] at h
    exact h)
  have LCIu : (⟨(shaF (encV u (cutT s).data.toList)).toArray⟩ : ByteArray).size = 32 := shaF_length _
  have CIv : Hid (∀ W, Konst W → Calls Tryd.prog 23 #[.agg (factC v (cutT t))] W fun e W' => e = .returned (.tuple #[.string ⟨(shaF (encV v (cutT t).data.toList)).toArray⟩, .int .i64 0]) ∧ Below W.heap.size W W') := Lib.hid (fun W hK => by
    have h := ID_calls v (cutT t) W hK
    rw [show idF v (cutT t) = shaF (encV v (cutT t).data.toList) by unfold idF; rw [hokv]; rfl, show errF v (cutT t) = 0 by unfold errF; rw [hokv]; rfl] at h
    exact h)
  have LCIv : (⟨(shaF (encV v (cutT t).data.toList)).toArray⟩ : ByteArray).size = 32 := shaF_length _
  have HV := Lib.hid (fun W => Valid_eq u (cutT s) true hoku W)
  have hDD := code_lists (shaF (encV u (cutT s).data.toList)) (shaF (encV v (cutT t).data.toList))
  rw [hd] at hDD
  clear hd
  have CEu : Hid (∀ W, Calls Tryd.prog 21 #[.agg (factC u (cutT s))] W fun e W' => e = .returned (.tuple #[.string ⟨(encV u (cutT s).data.toList).toArray⟩, .int .i64 0]) ∧ Below W.heap.size W W') := Lib.hid (fun W => by
    have h := Encode_calls u (cutT s) W
    rw [show codeF u (cutT s) = encV u (cutT s).data.toList by unfold codeF; rw [hoku]; rfl, show errF u (cutT s) = 0 by unfold errF; rw [hoku]; rfl] at h
    exact h)
  have CEv : Hid (∀ W, Calls Tryd.prog 21 #[.agg (factC v (cutT t))] W fun e W' => e = .returned (.tuple #[.string ⟨(encV v (cutT t).data.toList).toArray⟩, .int .i64 0]) ∧ Below W.heap.size W W') := Lib.hid (fun W => by
    have h := Encode_calls v (cutT t) W
    rw [show codeF v (cutT t) = encV v (cutT t).data.toList by unfold codeF; rw [hokv]; rfl, show errF v (cutT t) = 0 by unfold errF; rw [hokv]; rfl] at h
    exact h)
  have q2 := fun W => runEq u v (cutT s) (cutT t) W
  have hST := (code_lists (encV u (cutT s).data.toList) (encV v (cutT t).data.toList)).trans (code_eq u v _ _ hoku hokv)
  rw [hc] at q2 hST
  clear hc hoku hokv
  generalize (⟨(shaF (encV u (cutT s).data.toList)).toArray⟩ : ByteArray) = D at *
  generalize (⟨(shaF (encV v (cutT t).data.toList)).toArray⟩ : ByteArray) = E at *
  generalize (⟨(encV u (cutT s).data.toList).toArray⟩ : ByteArray) = S at *
  generalize (⟨(encV v (cutT t).data.toList).toArray⟩ : ByteArray) = T at *
  have HCu := Lib.hid (fun W => cut_calls u s W hs)
  have HCv := Lib.hid (fun W => cut_calls v t W ht)
  have honeU := factC_one u (cutT s)
  have honeV := factC_one v (cutT t)
  generalize cutT s = cs at *
  generalize cutT t = ct at *
  go_enter Tryd.func10, Tryd.ntmps10
  go_upto_region 1 with (fail)
  obtain ⟨W0, hW0, f0, f1, b0⟩ := two_rows w (factC u s) (factC v t) 23 23
  rw [hW0]
  clear hW0
  have F0 := Lib.hid f0
  have G0 := Lib.hid f1
  have B0 := Lib.hid b0
  clear f0 f1 b0
  go_wp2_with fail
  refine (HS.out _ (HK.out.keep B0.out) (HE.out.keep B0.out hgE)).mono ?_
  rintro e W1 ⟨rfl, b1⟩
  have F1 := Lib.hid (Hl.row b1 F0.out)
  have G1 := Lib.hid (Hl.row b1 G0.out)
  have B1 := Lib.hid (B0.out.trans (Below.mono b1 B0.out.size))
  clear F0 G0 B0
  clear b1
  go_wp2_with fail
  refine wp_region_hl_tail 4 W1 (Hl.refl _) (by kernel_rfl) (by kernel_rfl) ?_
  simp only [List.take_succ_cons, List.take_zero]
  repeat (first
    | go_big_quiet_skip
    | (go_big_quiet_want; refine quiet_load_row _ rfl _ rfl _ _ F1.out ?_; simp only [Act.put, List.setIfInBounds_toArray, List.set_cons_zero, List.set_cons_succ]; go_big_quiet_on)
    | (go_big_quiet_want; refine quiet_load_row _ rfl _ rfl _ _ G1.out ?_; simp only [Act.put, List.setIfInBounds_toArray, List.set_cons_zero, List.set_cons_succ]; go_big_quiet_on)
    | (go_big_quiet_want; go_big_quiet_op; first
      | go_big_quiet_on
      | (apply Exists.intro; (with_reducible refine ⟨fun _ => hl_call (HCu.out _), ?_⟩); go_big_quiet_on)
      | (apply Exists.intro; (with_reducible refine ⟨fun _ => hl_call (HCv.out _), ?_⟩); go_big_quiet_on)
      ))
  refine wpQuiet_nil ?_
  intro W2 h2
  simp only [List.drop_succ_cons, List.drop_zero]

  have F2 := Lib.hid (Hl.row h2 F1.out)
  have G2 := Lib.hid (Hl.row h2 G1.out)
  have B2 := Lib.hid (B1.out.trans (Below.mono h2 B1.out.size))
  clear h2 F1 G1 B1
  refine wpList_store_row rfl 23 _ _ rfl w.heap.size (factC u cs) rfl rfl 23 _ F2.out (hiC _ _) rfl honeU ?_
  refine wpList_store_row rfl 23 _ _ rfl (w.heap.size + 1) (factC v ct) rfl rfl 23 _ ((setRow_other _ _ _ _ (by omega)).trans G2.out) (hiC _ _) rfl honeV ?_
  obtain ⟨W3, hW3, F3, G3, B3⟩ : ∃ W3, (W2.setRow w.heap.size (factC u cs)).setRow (w.heap.size + 1) (factC v ct) = W3 ∧ Hid (W3.heap[w.heap.size]? = some (.cells (factC u cs) 23 (0, 0))) ∧ Hid (W3.heap[w.heap.size + 1]? = some (.cells (factC v ct) 23 (0, 0))) ∧ Hid (Below w.heap.size w W3) :=
    ⟨_, rfl, Lib.hid ((setRow_other _ _ _ _ (by omega)).trans (setRow_heap _ _ _ _ _ _ F2.out)), Lib.hid (setRow_heap _ _ _ _ _ _ ((setRow_other _ _ _ _ (by omega)).trans G2.out)), Lib.hid (below_setRow' (below_setRow' B2.out _ _ (Nat.le_refl _)) _ _ (by omega))⟩
  rw [hW3]
  clear hW3 F2 G2 B2
  go_wp2_with (first
      | (refine wpList_load_fact rfl _ rfl w.heap.size rfl u cs F3.out ?_)
      | (refine wpList_load_fact rfl _ rfl (w.heap.size + 1) rfl v ct G3.out ?_))
  refine (CIu.out _ (HK.out.keep B3.out)).mono ?_
  rintro e W4 ⟨rfl, b4⟩
  have F4 := Lib.hid (Hl.row b4 F3.out)
  have G4 := Lib.hid (Hl.row b4 G3.out)
  have B4 := Lib.hid (B3.out.trans (Below.mono b4 B3.out.size))
  clear F3 G3 B3
  clear b4
  go_wp2_with (first
      | (refine wpList_load_fact rfl _ rfl w.heap.size rfl u cs F4.out ?_)
      | (refine wpList_load_fact rfl _ rfl (w.heap.size + 1) rfl v ct G4.out ?_))
  refine (CIv.out _ (HK.out.keep B4.out)).mono ?_
  rintro e W5 ⟨rfl, b5⟩
  have F5 := Lib.hid (Hl.row b5 F4.out)
  have G5 := Lib.hid (Hl.row b5 G4.out)
  have B5 := Lib.hid (B4.out.trans (Below.mono b5 B4.out.size))
  clear F4 G4 B4
  clear b5
  go_wp2_with (first
      | (refine wpList_load_fact rfl _ rfl w.heap.size rfl u cs F5.out ?_)
      | (refine wpList_load_fact rfl _ rfl (w.heap.size + 1) rfl v ct G5.out ?_))
  refine (HV.out _).mono ?_
  rintro e W6 ⟨rfl, b6⟩
  have F6 := Lib.hid (Hl.row b6 F5.out)
  have G6 := Lib.hid (Hl.row b6 G5.out)
  have B6 := Lib.hid (B5.out.trans (Below.mono b6 B5.out.size))
  clear F5 G5 B5
  clear b6
  go_wp2_with (first
      | (refine wpList_load_fact rfl _ rfl w.heap.size rfl u cs F6.out ?_)
      | (refine wpList_load_fact rfl _ rfl (w.heap.size + 1) rfl v ct G6.out ?_))
  refine (CEu.out _).mono ?_
  rintro e W7 ⟨rfl, b7⟩
  have F7 := Lib.hid (Hl.row b7 F6.out)
  have G7 := Lib.hid (Hl.row b7 G6.out)
  have B7 := Lib.hid (B6.out.trans (Below.mono b7 B6.out.size))
  clear F6 G6 B6
  clear b7
  go_wp2_with (first
      | (refine wpList_load_fact rfl _ rfl w.heap.size rfl u cs F7.out ?_)
      | (refine wpList_load_fact rfl _ rfl (w.heap.size + 1) rfl v ct G7.out ?_))
  refine (CEv.out _).mono ?_
  rintro e W8 ⟨rfl, b8⟩
  have F8 := Lib.hid (Hl.row b8 F7.out)
  have G8 := Lib.hid (Hl.row b8 G7.out)
  have B8 := Lib.hid (B7.out.trans (Below.mono b8 B7.out.size))
  clear F7 G7 B7
  clear b8
  go_wp2_with (first
      | (refine wpList_load_fact rfl _ rfl w.heap.size rfl u cs F8.out ?_)
      | (refine wpList_load_fact rfl _ rfl (w.heap.size + 1) rfl v ct G8.out ?_))
  go_ret
  exact ⟨rfl, B8.out⟩

set_option maxRecDepth 100000 in
set_option maxHeartbeats 4000000 in
theorem id_ne (u v : Nat → Int) (s t : ByteArray) (w : World) (a : Addr) (hK : Konst w) (hE : ErrK a w) (hs : s.size ≤ 9223372036854775807) (ht : t.size ≤ 9223372036854775807) (hoku : okT u (cutT s) = true) (hokv : okT v (cutT t) = true) (hd : (shaF (encV u (cutT s).data.toList) == shaF (encV v (cutT t).data.toList)) = true) (hc : eqB u v (cutT s) (cutT t) = false) :
    Calls Tryd.prog 10 #[.agg (factC u s), .agg (factC v t)] w fun e W' => e = .returned (.bool true) ∧ Below w.heap.size w W' := by
  have hgE : 0 < w.heap.size := World.block_lt_of_cell? w _ hE
  have HK := Lib.hid hK
  have HE := Lib.hid hE
  clear hK hE
  have HS := Lib.hid (fun W (h : Konst W) (h' : ErrK a W) => sane_calls a W h h')
  have CIu : Hid (∀ W, Konst W → Calls Tryd.prog 23 #[.agg (factC u (cutT s))] W fun e W' => e = .returned (.tuple #[.string ⟨(shaF (encV u (cutT s).data.toList)).toArray⟩, .int .i64 0]) ∧ Below W.heap.size W W') := Lib.hid (fun W hK => by
    have h := ID_calls u (cutT s) W hK
    rw [show idF u (cutT s) = shaF (encV u (cutT s).data.toList) by unfold idF; rw [hoku]; rfl, show errF u (cutT s) = 0 by unfold errF; rw [hoku]; rfl] at h
    exact h)
  have LCIu : (⟨(shaF (encV u (cutT s).data.toList)).toArray⟩ : ByteArray).size = 32 := shaF_length _
  have CIv : Hid (∀ W, Konst W → Calls Tryd.prog 23 #[.agg (factC v (cutT t))] W fun e W' => e = .returned (.tuple #[.string ⟨(shaF (encV v (cutT t).data.toList)).toArray⟩, .int .i64 0]) ∧ Below W.heap.size W W') := Lib.hid (fun W hK => by
    have h := ID_calls v (cutT t) W hK
    rw [show idF v (cutT t) = shaF (encV v (cutT t).data.toList) by unfold idF; rw [hokv]; rfl, show errF v (cutT t) = 0 by unfold errF; rw [hokv]; rfl] at h
    exact h)
  have LCIv : (⟨(shaF (encV v (cutT t).data.toList)).toArray⟩ : ByteArray).size = 32 := shaF_length _
  have HV := Lib.hid (fun W => Valid_eq u (cutT s) true hoku W)
  have hDD := code_lists (shaF (encV u (cutT s).data.toList)) (shaF (encV v (cutT t).data.toList))
  rw [hd] at hDD
  clear hd
  have CEu : Hid (∀ W, Calls Tryd.prog 21 #[.agg (factC u (cutT s))] W fun e W' => e = .returned (.tuple #[.string ⟨(encV u (cutT s).data.toList).toArray⟩, .int .i64 0]) ∧ Below W.heap.size W W') := Lib.hid (fun W => by
    have h := Encode_calls u (cutT s) W
    rw [show codeF u (cutT s) = encV u (cutT s).data.toList by unfold codeF; rw [hoku]; rfl, show errF u (cutT s) = 0 by unfold errF; rw [hoku]; rfl] at h
    exact h)
  have CEv : Hid (∀ W, Calls Tryd.prog 21 #[.agg (factC v (cutT t))] W fun e W' => e = .returned (.tuple #[.string ⟨(encV v (cutT t).data.toList).toArray⟩, .int .i64 0]) ∧ Below W.heap.size W W') := Lib.hid (fun W => by
    have h := Encode_calls v (cutT t) W
    rw [show codeF v (cutT t) = encV v (cutT t).data.toList by unfold codeF; rw [hokv]; rfl, show errF v (cutT t) = 0 by unfold errF; rw [hokv]; rfl] at h
    exact h)
  have q2 := fun W => runEq u v (cutT s) (cutT t) W
  have hST := (code_lists (encV u (cutT s).data.toList) (encV v (cutT t).data.toList)).trans (code_eq u v _ _ hoku hokv)
  rw [hc] at q2 hST
  clear hc hoku hokv
  generalize (⟨(shaF (encV u (cutT s).data.toList)).toArray⟩ : ByteArray) = D at *
  generalize (⟨(shaF (encV v (cutT t).data.toList)).toArray⟩ : ByteArray) = E at *
  generalize (⟨(encV u (cutT s).data.toList).toArray⟩ : ByteArray) = S at *
  generalize (⟨(encV v (cutT t).data.toList).toArray⟩ : ByteArray) = T at *
  have HCu := Lib.hid (fun W => cut_calls u s W hs)
  have HCv := Lib.hid (fun W => cut_calls v t W ht)
  have honeU := factC_one u (cutT s)
  have honeV := factC_one v (cutT t)
  generalize cutT s = cs at *
  generalize cutT t = ct at *
  go_enter Tryd.func10, Tryd.ntmps10
  go_upto_region 1 with (fail)
  obtain ⟨W0, hW0, f0, f1, b0⟩ := two_rows w (factC u s) (factC v t) 23 23
  rw [hW0]
  clear hW0
  have F0 := Lib.hid f0
  have G0 := Lib.hid f1
  have B0 := Lib.hid b0
  clear f0 f1 b0
  go_wp2_with fail
  refine (HS.out _ (HK.out.keep B0.out) (HE.out.keep B0.out hgE)).mono ?_
  rintro e W1 ⟨rfl, b1⟩
  have F1 := Lib.hid (Hl.row b1 F0.out)
  have G1 := Lib.hid (Hl.row b1 G0.out)
  have B1 := Lib.hid (B0.out.trans (Below.mono b1 B0.out.size))
  clear F0 G0 B0
  clear b1
  go_wp2_with fail
  refine wp_region_hl_tail 4 W1 (Hl.refl _) (by kernel_rfl) (by kernel_rfl) ?_
  simp only [List.take_succ_cons, List.take_zero]
  repeat (first
    | go_big_quiet_skip
    | (go_big_quiet_want; refine quiet_load_row _ rfl _ rfl _ _ F1.out ?_; simp only [Act.put, List.setIfInBounds_toArray, List.set_cons_zero, List.set_cons_succ]; go_big_quiet_on)
    | (go_big_quiet_want; refine quiet_load_row _ rfl _ rfl _ _ G1.out ?_; simp only [Act.put, List.setIfInBounds_toArray, List.set_cons_zero, List.set_cons_succ]; go_big_quiet_on)
    | (go_big_quiet_want; go_big_quiet_op; first
      | go_big_quiet_on
      | (apply Exists.intro; (with_reducible refine ⟨fun _ => hl_call (HCu.out _), ?_⟩); go_big_quiet_on)
      | (apply Exists.intro; (with_reducible refine ⟨fun _ => hl_call (HCv.out _), ?_⟩); go_big_quiet_on)
      ))
  refine wpQuiet_nil ?_
  intro W2 h2
  simp only [List.drop_succ_cons, List.drop_zero]

  have F2 := Lib.hid (Hl.row h2 F1.out)
  have G2 := Lib.hid (Hl.row h2 G1.out)
  have B2 := Lib.hid (B1.out.trans (Below.mono h2 B1.out.size))
  clear h2 F1 G1 B1
  refine wpList_store_row rfl 23 _ _ rfl w.heap.size (factC u cs) rfl rfl 23 _ F2.out (hiC _ _) rfl honeU ?_
  refine wpList_store_row rfl 23 _ _ rfl (w.heap.size + 1) (factC v ct) rfl rfl 23 _ ((setRow_other _ _ _ _ (by omega)).trans G2.out) (hiC _ _) rfl honeV ?_
  obtain ⟨W3, hW3, F3, G3, B3⟩ : ∃ W3, (W2.setRow w.heap.size (factC u cs)).setRow (w.heap.size + 1) (factC v ct) = W3 ∧ Hid (W3.heap[w.heap.size]? = some (.cells (factC u cs) 23 (0, 0))) ∧ Hid (W3.heap[w.heap.size + 1]? = some (.cells (factC v ct) 23 (0, 0))) ∧ Hid (Below w.heap.size w W3) :=
    ⟨_, rfl, Lib.hid ((setRow_other _ _ _ _ (by omega)).trans (setRow_heap _ _ _ _ _ _ F2.out)), Lib.hid (setRow_heap _ _ _ _ _ _ ((setRow_other _ _ _ _ (by omega)).trans G2.out)), Lib.hid (below_setRow' (below_setRow' B2.out _ _ (Nat.le_refl _)) _ _ (by omega))⟩
  rw [hW3]
  clear hW3 F2 G2 B2
  go_wp2_with (first
      | (refine wpList_load_fact rfl _ rfl w.heap.size rfl u cs F3.out ?_)
      | (refine wpList_load_fact rfl _ rfl (w.heap.size + 1) rfl v ct G3.out ?_))
  refine (CIu.out _ (HK.out.keep B3.out)).mono ?_
  rintro e W4 ⟨rfl, b4⟩
  have F4 := Lib.hid (Hl.row b4 F3.out)
  have G4 := Lib.hid (Hl.row b4 G3.out)
  have B4 := Lib.hid (B3.out.trans (Below.mono b4 B3.out.size))
  clear F3 G3 B3
  clear b4
  go_wp2_with (first
      | (refine wpList_load_fact rfl _ rfl w.heap.size rfl u cs F4.out ?_)
      | (refine wpList_load_fact rfl _ rfl (w.heap.size + 1) rfl v ct G4.out ?_))
  refine (CIv.out _ (HK.out.keep B4.out)).mono ?_
  rintro e W5 ⟨rfl, b5⟩
  have F5 := Lib.hid (Hl.row b5 F4.out)
  have G5 := Lib.hid (Hl.row b5 G4.out)
  have B5 := Lib.hid (B4.out.trans (Below.mono b5 B4.out.size))
  clear F4 G4 B4
  clear b5
  go_wp2_with (first
      | (refine wpList_load_fact rfl _ rfl w.heap.size rfl u cs F5.out ?_)
      | (refine wpList_load_fact rfl _ rfl (w.heap.size + 1) rfl v ct G5.out ?_))
  refine (HV.out _).mono ?_
  rintro e W6 ⟨rfl, b6⟩
  have F6 := Lib.hid (Hl.row b6 F5.out)
  have G6 := Lib.hid (Hl.row b6 G5.out)
  have B6 := Lib.hid (B5.out.trans (Below.mono b6 B5.out.size))
  clear F5 G5 B5
  clear b6
  go_wp2_with (first
      | (refine wpList_load_fact rfl _ rfl w.heap.size rfl u cs F6.out ?_)
      | (refine wpList_load_fact rfl _ rfl (w.heap.size + 1) rfl v ct G6.out ?_))
  refine (CEu.out _).mono ?_
  rintro e W7 ⟨rfl, b7⟩
  have F7 := Lib.hid (Hl.row b7 F6.out)
  have G7 := Lib.hid (Hl.row b7 G6.out)
  have B7 := Lib.hid (B6.out.trans (Below.mono b7 B6.out.size))
  clear F6 G6 B6
  clear b7
  go_wp2_with (first
      | (refine wpList_load_fact rfl _ rfl w.heap.size rfl u cs F7.out ?_)
      | (refine wpList_load_fact rfl _ rfl (w.heap.size + 1) rfl v ct G7.out ?_))
  refine (CEv.out _).mono ?_
  rintro e W8 ⟨rfl, b8⟩
  have F8 := Lib.hid (Hl.row b8 F7.out)
  have G8 := Lib.hid (Hl.row b8 G7.out)
  have B8 := Lib.hid (B7.out.trans (Below.mono b8 B7.out.size))
  clear F7 G7 B7
  clear b8
  go_wp2_with (first
      | (refine wpList_load_fact rfl _ rfl w.heap.size rfl u cs F8.out ?_)
      | (refine wpList_load_fact rfl _ rfl (w.heap.size + 1) rfl v ct G8.out ?_))
  go_ret
  exact ⟨rfl, B8.out⟩

theorem id_walk (u : Nat → Int) (s : ByteArray) (v : Nat → Int) (t : ByteArray) (w : World) (a : Addr) (hK : Konst w) (hE : ErrK a w) (_ : Ints u) (hs : s.size ≤ 9223372036854775807) (_ : Ints v) (ht : t.size ≤ 9223372036854775807) :
    Calls Tryd.prog 10 #[.agg (factC u s), .agg (factC v t)] w fun e W' => e = .returned (.bool true) ∧ Below w.heap.size w W' := by
  rcases hu : okT u (cutT s) with _ | _
  · exact id_bad u v s t w a hK hE hs ht hu
  · rcases hv : okT v (cutT t) with _ | _
    · exact id_half u v s t w a hK hE hs ht hu hv
    · rcases hd : (shaF (encV u (cutT s).data.toList) == shaF (encV v (cutT t).data.toList)) with _ | _
      · exact id_far u v s t w a hK hE hs ht hu hv hd
      · rcases hc : eqB u v (cutT s) (cutT t) with _ | _
        · exact id_ne u v s t w a hK hE hs ht hu hv hd hc
        · exact id_eq u v s t w a hK hE hs ht hu hv hd hc

end Go.Proofs.YtnbeebndcgoalaaDoor
