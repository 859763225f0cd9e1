/- The walk of FactRoundTrip. Conditions: the table of constants reads as the program lays it; the variable errForm holds an error of its own. -/
import Derived.Test.YtnbeebndcgoalaaDoorFHlp
import Derived.Test.YtnbeebndcgoalaaDoorQtl
namespace Go.Proofs.YtnbeebndcgoalaaDoor
open Go.RowKit
theorem eqB_self (u : Nat → Int) (s : ByteArray) : eqB u u s s = true := by rw [eqB_iff]; exact ⟨fun _ _ => rfl, rfl⟩
/-- Two valid facts have the same encoding exactly if they are the same. -/
theorem code_eq (u v : Nat → Int) (s t : ByteArray) (hu : okT u s = true) (hv : okT v t = true) : (encV u s.data.toList == encV v t.data.toList) = eqB u v s t := by
  rw [Bool.eq_iff_iff, eqB_iff, beq_iff_eq, Lib.toList_data, Lib.toList_data]
  constructor
  · intro h
    exact encV_inj u v _ _ (okT_fits hu) (okT_fits hv) h
  · rintro ⟨h1, h2⟩
    rw [h2, encV_congr u v _ h1]
theorem code_lists (a b : List UInt8) : ((⟨a.toArray⟩ : ByteArray).toList == (⟨b.toArray⟩ : ByteArray).toList) = (a == b) := by
  rw [Lib.toList_data, Lib.toList_data]
theorem code_size (u : Nat → Int) (s : ByteArray) : ((⟨(encV u (cutT s).data.toList).toArray⟩ : ByteArray)).size ≤ 9223372036854775807 := by
  have h1 := (encV_length u (cutT s).data.toList).2
  have h2 := cutT_size s
  have h3 : (cutT s).data.toList.length = (cutT s).size := rfl
  show (encV u (cutT s).data.toList).toArray.size ≤ _
  rw [List.size_toArray]
  omega

set_option maxRecDepth 100000 in
set_option maxHeartbeats 4000000 in
theorem rt_bad (u v : Nat → Int) (s t : ByteArray) (w : World) (a : Addr) (hK : Konst w) (hE : ErrK a w) (hs : s.size ≤ 9223372036854775807) (ht : t.size ≤ 9223372036854775807) (hoku : okT u (cutT s) = false) :
    Calls Tryd.prog 6 #[.agg (factC u s), .agg (factC v t)] w fun e W' => e = .returned (.bool true) ∧ Below w.heap.size w W' := by
  have hgE : 0 < w.heap.size := World.block_lt_of_cell? w _ hE
  have HK := Lib.hid hK
  have HE := Lib.hid hE
  clear hK hE
  have HS := Lib.hid (fun W (h : Konst W) (h' : ErrK a W) => sane_calls a W h h')
  have CEu : Hid (∀ W, Calls Tryd.prog 21 #[.agg (factC u (cutT s))] W fun e W' => e = .returned (.tuple #[.string ⟨#[]⟩, .int .i64 50]) ∧ Below W.heap.size W W') := Lib.hid (fun W => by
    have h := Encode_calls u (cutT s) W
    rw [show codeF u (cutT s) = [] by unfold codeF; rw [hoku]; rfl, show errF u (cutT s) = 50 by unfold errF; rw [hoku]; rfl] at h
    exact h)
  have CEv := Lib.hid (fun W => Encode_calls v (cutT t) W)
  have HV := Lib.hid (fun W => Valid_eq u (cutT s) false hoku W)
  clear hoku
  generalize codeF v (cutT t) = T at *
  generalize errF v (cutT t) = ev at *
  have HCu := Lib.hid (fun W => cut_calls u s W hs)
  have HCv := Lib.hid (fun W => cut_calls v t W ht)
  have honeU := factC_one u (cutT s)
  have honeV := factC_one v (cutT t)
  generalize cutT s = cs at *
  generalize cutT t = ct at *
  go_enter Tryd.func6, Tryd.ntmps6
  go_upto_region 1 with (fail)
  obtain ⟨W0, hW0, f0, f1, b0⟩ := two_rows w (factC u s) (factC v t) 23 23
  rw [hW0]
  clear hW0
  have F0 := Lib.hid f0
  have G0 := Lib.hid f1
  have B0 := Lib.hid b0
  clear f0 f1 b0
  go_wp2_with fail
  refine (HS.out _ (HK.out.keep B0.out) (HE.out.keep B0.out hgE)).mono ?_
  rintro e W1 ⟨rfl, b1⟩
  have F1 := Lib.hid (Hl.row b1 F0.out)
  have G1 := Lib.hid (Hl.row b1 G0.out)
  have B1 := Lib.hid (B0.out.trans (Below.mono b1 B0.out.size))
  clear F0 G0 B0
  clear b1
  go_wp2_with fail
  refine wp_region_hl_tail 4 W1 (Hl.refl _) (by kernel_rfl) (by kernel_rfl) ?_
  simp only [List.take_succ_cons, List.take_zero]
  repeat (first
    | go_big_quiet_skip
    | (go_big_quiet_want; refine quiet_load_row _ rfl _ rfl _ _ F1.out ?_; simp only [Act.put, List.setIfInBounds_toArray, List.set_cons_zero, List.set_cons_succ]; go_big_quiet_on)
    | (go_big_quiet_want; refine quiet_load_row _ rfl _ rfl _ _ G1.out ?_; simp only [Act.put, List.setIfInBounds_toArray, List.set_cons_zero, List.set_cons_succ]; go_big_quiet_on)
    | (go_big_quiet_want; go_big_quiet_op; first
      | go_big_quiet_on
      | (apply Exists.intro; (with_reducible refine ⟨fun _ => hl_call (HCu.out _), ?_⟩); go_big_quiet_on)
      | (apply Exists.intro; (with_reducible refine ⟨fun _ => hl_call (HCv.out _), ?_⟩); go_big_quiet_on)
      ))
  refine wpQuiet_nil ?_
  intro W2 h2
  simp only [List.drop_succ_cons, List.drop_zero]

  have F2 := Lib.hid (Hl.row h2 F1.out)
  have G2 := Lib.hid (Hl.row h2 G1.out)
  have B2 := Lib.hid (B1.out.trans (Below.mono h2 B1.out.size))
  clear h2 F1 G1 B1
  refine wpList_store_row rfl 23 _ _ rfl w.heap.size (factC u cs) rfl rfl 23 _ F2.out (hiC _ _) rfl honeU ?_
  refine wpList_store_row rfl 23 _ _ rfl (w.heap.size + 1) (factC v ct) rfl rfl 23 _ ((setRow_other _ _ _ _ (by omega)).trans G2.out) (hiC _ _) rfl honeV ?_
  obtain ⟨W3, hW3, F3, G3, B3⟩ : ∃ W3, (W2.setRow w.heap.size (factC u cs)).setRow (w.heap.size + 1) (factC v ct) = W3 ∧ Hid (W3.heap[w.heap.size]? = some (.cells (factC u cs) 23 (0, 0))) ∧ Hid (W3.heap[w.heap.size + 1]? = some (.cells (factC v ct) 23 (0, 0))) ∧ Hid (Below w.heap.size w W3) :=
    ⟨_, rfl, Lib.hid ((setRow_other _ _ _ _ (by omega)).trans (setRow_heap _ _ _ _ _ _ F2.out)), Lib.hid (setRow_heap _ _ _ _ _ _ ((setRow_other _ _ _ _ (by omega)).trans G2.out)), Lib.hid (below_setRow' (below_setRow' B2.out _ _ (Nat.le_refl _)) _ _ (by omega))⟩
  rw [hW3]
  clear hW3 F2 G2 B2
  go_wp2_with (first
      | (refine wpList_load_fact rfl _ rfl w.heap.size rfl u cs F3.out ?_)
      | (refine wpList_load_fact rfl _ rfl (w.heap.size + 1) rfl v ct G3.out ?_))
  refine (CEu.out _).mono ?_
  rintro e W4 ⟨rfl, b4⟩
  have F4 := Lib.hid (Hl.row b4 F3.out)
  have G4 := Lib.hid (Hl.row b4 G3.out)
  have B4 := Lib.hid (B3.out.trans (Below.mono b4 B3.out.size))
  clear F3 G3 B3
  clear b4
  go_wp2_with (first
      | (refine wpList_load_fact rfl _ rfl w.heap.size rfl u cs F4.out ?_)
      | (refine wpList_load_fact rfl _ rfl (w.heap.size + 1) rfl v ct G4.out ?_))
  refine (CEv.out _).mono ?_
  rintro e W5 ⟨rfl, b5⟩
  have F5 := Lib.hid (Hl.row b5 F4.out)
  have G5 := Lib.hid (Hl.row b5 G4.out)
  have B5 := Lib.hid (B4.out.trans (Below.mono b5 B4.out.size))
  clear F4 G4 B4
  clear b5
  go_wp2_with (first
      | (refine wpList_load_fact rfl _ rfl w.heap.size rfl u cs F5.out ?_)
      | (refine wpList_load_fact rfl _ rfl (w.heap.size + 1) rfl v ct G5.out ?_))
  refine (HV.out _).mono ?_
  rintro e W6 ⟨rfl, b6⟩
  have F6 := Lib.hid (Hl.row b6 F5.out)
  have G6 := Lib.hid (Hl.row b6 G5.out)
  have B6 := Lib.hid (B5.out.trans (Below.mono b6 B5.out.size))
  clear F5 G5 B5
  clear b6
  go_wp2_with (first
      | (refine wpList_load_fact rfl _ rfl w.heap.size rfl u cs F6.out ?_)
      | (refine wpList_load_fact rfl _ rfl (w.heap.size + 1) rfl v ct G6.out ?_))
  go_ret
  exact ⟨rfl, B6.out⟩

set_option maxRecDepth 100000 in
set_option maxHeartbeats 4000000 in
theorem rt_half (u v : Nat → Int) (s t : ByteArray) (w : World) (a : Addr) (hK : Konst w) (hE : ErrK a w) (hs : s.size ≤ 9223372036854775807) (ht : t.size ≤ 9223372036854775807) (hoku : okT u (cutT s) = true) (hokv : okT v (cutT t) = false) :
    Calls Tryd.prog 6 #[.agg (factC u s), .agg (factC v t)] w fun e W' => e = .returned (.bool true) ∧ Below w.heap.size w W' := by
  have hgE : 0 < w.heap.size := World.block_lt_of_cell? w _ hE
  have HK := Lib.hid hK
  have HE := Lib.hid hE
  clear hK hE
  have HS := Lib.hid (fun W (h : Konst W) (h' : ErrK a W) => sane_calls a W h h')
  have CEu : Hid (∀ W, Calls Tryd.prog 21 #[.agg (factC u (cutT s))] W fun e W' => e = .returned (.tuple #[.string ⟨(encV u (cutT s).data.toList).toArray⟩, .int .i64 0]) ∧ Below W.heap.size W W') := Lib.hid (fun W => by
    have h := Encode_calls u (cutT s) W
    rw [show codeF u (cutT s) = encV u (cutT s).data.toList by unfold codeF; rw [hoku]; rfl, show errF u (cutT s) = 0 by unfold errF; rw [hoku]; rfl] at h
    exact h)
  have CEv : Hid (∀ W, Calls Tryd.prog 21 #[.agg (factC v (cutT t))] W fun e W' => e = .returned (.tuple #[.string ⟨#[]⟩, .int .i64 50]) ∧ Below W.heap.size W W') := Lib.hid (fun W => by
    have h := Encode_calls v (cutT t) W
    rw [show codeF v (cutT t) = [] by unfold codeF; rw [hokv]; rfl, show errF v (cutT t) = 50 by unfold errF; rw [hokv]; rfl] at h
    exact h)
  have HV := Lib.hid (fun W => Valid_eq u (cutT s) true hoku W)
  have HD := Lib.hid (fun W (h : ErrK a W) => Decode_code u (cutT s) hoku ⟨(encV u (cutT s).data.toList).toArray⟩ rfl a W h (code_size u s))
  have q1 := fun W => runEq u u (cutT s) (cutT s) W
  rw [eqB_self] at q1
  clear hoku hokv
  generalize (⟨(encV u (cutT s).data.toList).toArray⟩ : ByteArray) = S at *
  have HCu := Lib.hid (fun W => cut_calls u s W hs)
  have HCv := Lib.hid (fun W => cut_calls v t W ht)
  have honeU := factC_one u (cutT s)
  have honeV := factC_one v (cutT t)
  generalize cutT s = cs at *
  generalize cutT t = ct at *
  go_enter Tryd.func6, Tryd.ntmps6
  go_upto_region 1 with (fail)
  obtain ⟨W0, hW0, f0, f1, b0⟩ := two_rows w (factC u s) (factC v t) 23 23
  rw [hW0]
  clear hW0
  have F0 := Lib.hid f0
  have G0 := Lib.hid f1
  have B0 := Lib.hid b0
  clear f0 f1 b0
  go_wp2_with fail
  refine (HS.out _ (HK.out.keep B0.out) (HE.out.keep B0.out hgE)).mono ?_
  rintro e W1 ⟨rfl, b1⟩
  have F1 := Lib.hid (Hl.row b1 F0.out)
  have G1 := Lib.hid (Hl.row b1 G0.out)
  have B1 := Lib.hid (B0.out.trans (Below.mono b1 B0.out.size))
  clear F0 G0 B0
  clear b1
  go_wp2_with fail
  refine wp_region_hl_tail 4 W1 (Hl.refl _) (by kernel_rfl) (by kernel_rfl) ?_
  simp only [List.take_succ_cons, List.take_zero]
  repeat (first
    | go_big_quiet_skip
    | (go_big_quiet_want; refine quiet_load_row _ rfl _ rfl _ _ F1.out ?_; simp only [Act.put, List.setIfInBounds_toArray, List.set_cons_zero, List.set_cons_succ]; go_big_quiet_on)
    | (go_big_quiet_want; refine quiet_load_row _ rfl _ rfl _ _ G1.out ?_; simp only [Act.put, List.setIfInBounds_toArray, List.set_cons_zero, List.set_cons_succ]; go_big_quiet_on)
    | (go_big_quiet_want; go_big_quiet_op; first
      | go_big_quiet_on
      | (apply Exists.intro; (with_reducible refine ⟨fun _ => hl_call (HCu.out _), ?_⟩); go_big_quiet_on)
      | (apply Exists.intro; (with_reducible refine ⟨fun _ => hl_call (HCv.out _), ?_⟩); go_big_quiet_on)
      ))
  refine wpQuiet_nil ?_
  intro W2 h2
  simp only [List.drop_succ_cons, List.drop_zero]

  have F2 := Lib.hid (Hl.row h2 F1.out)
  have G2 := Lib.hid (Hl.row h2 G1.out)
  have B2 := Lib.hid (B1.out.trans (Below.mono h2 B1.out.size))
  clear h2 F1 G1 B1
  refine wpList_store_row rfl 23 _ _ rfl w.heap.size (factC u cs) rfl rfl 23 _ F2.out (hiC _ _) rfl honeU ?_
  refine wpList_store_row rfl 23 _ _ rfl (w.heap.size + 1) (factC v ct) rfl rfl 23 _ ((setRow_other _ _ _ _ (by omega)).trans G2.out) (hiC _ _) rfl honeV ?_
  obtain ⟨W3, hW3, F3, G3, B3⟩ : ∃ W3, (W2.setRow w.heap.size (factC u cs)).setRow (w.heap.size + 1) (factC v ct) = W3 ∧ Hid (W3.heap[w.heap.size]? = some (.cells (factC u cs) 23 (0, 0))) ∧ Hid (W3.heap[w.heap.size + 1]? = some (.cells (factC v ct) 23 (0, 0))) ∧ Hid (Below w.heap.size w W3) :=
    ⟨_, rfl, Lib.hid ((setRow_other _ _ _ _ (by omega)).trans (setRow_heap _ _ _ _ _ _ F2.out)), Lib.hid (setRow_heap _ _ _ _ _ _ ((setRow_other _ _ _ _ (by omega)).trans G2.out)), Lib.hid (below_setRow' (below_setRow' B2.out _ _ (Nat.le_refl _)) _ _ (by omega))⟩
  rw [hW3]
  clear hW3 F2 G2 B2
  go_wp2_with (first
      | (refine wpList_load_fact rfl _ rfl w.heap.size rfl u cs F3.out ?_)
      | (refine wpList_load_fact rfl _ rfl (w.heap.size + 1) rfl v ct G3.out ?_))
  refine (CEu.out _).mono ?_
  rintro e W4 ⟨rfl, b4⟩
  have F4 := Lib.hid (Hl.row b4 F3.out)
  have G4 := Lib.hid (Hl.row b4 G3.out)
  have B4 := Lib.hid (B3.out.trans (Below.mono b4 B3.out.size))
  clear F3 G3 B3
  clear b4
  go_wp2_with (first
      | (refine wpList_load_fact rfl _ rfl w.heap.size rfl u cs F4.out ?_)
      | (refine wpList_load_fact rfl _ rfl (w.heap.size + 1) rfl v ct G4.out ?_))
  refine (CEv.out _).mono ?_
  rintro e W5 ⟨rfl, b5⟩
  have F5 := Lib.hid (Hl.row b5 F4.out)
  have G5 := Lib.hid (Hl.row b5 G4.out)
  have B5 := Lib.hid (B4.out.trans (Below.mono b5 B4.out.size))
  clear F4 G4 B4
  clear b5
  go_wp2_with (first
      | (refine wpList_load_fact rfl _ rfl w.heap.size rfl u cs F5.out ?_)
      | (refine wpList_load_fact rfl _ rfl (w.heap.size + 1) rfl v ct G5.out ?_))
  refine (HV.out _).mono ?_
  rintro e W6 ⟨rfl, b6⟩
  have F6 := Lib.hid (Hl.row b6 F5.out)
  have G6 := Lib.hid (Hl.row b6 G5.out)
  have B6 := Lib.hid (B5.out.trans (Below.mono b6 B5.out.size))
  clear F5 G5 B5
  clear b6
  go_wp2_with (first
      | (refine wpList_load_fact rfl _ rfl w.heap.size rfl u cs F6.out ?_)
      | (refine wpList_load_fact rfl _ rfl (w.heap.size + 1) rfl v ct G6.out ?_))
  refine (HD.out _ (HE.out.keep B6.out hgE)).mono ?_
  rintro e W7 ⟨rfl, b7⟩
  have F7 := Lib.hid (Hl.row b7 F6.out)
  have G7 := Lib.hid (Hl.row b7 G6.out)
  have B7 := Lib.hid (B6.out.trans (Below.mono b7 B6.out.size))
  clear F6 G6 B6
  clear b7
  have honeC := factC_one u cs
  go_upto_region 10 with (first
      | (refine wpList_store_row rfl 23 _ _ rfl W7.heap.size (factC u cs) rfl rfl 23 _ (heap_new W7 _) (hiC _ _) rfl honeC ?_)
      | (refine wpList_load_fact rfl _ rfl w.heap.size rfl u cs F7.out ?_)
      | (refine wpList_load_fact rfl _ rfl (w.heap.size + 1) rfl v ct G7.out ?_))
  have hltFC : w.heap.size < W7.heap.size := (Array.getElem?_eq_some_iff.1 F7.out).1
  have hltGC : (w.heap.size + 1) < W7.heap.size := (Array.getElem?_eq_some_iff.1 G7.out).1
  have hBC : w.heap.size ≤ W7.heap.size := B7.out.size
  obtain ⟨W8, hW8, F8, G8, C8, B8, hs8⟩ : ∃ W8, (W7.alloc (.cells (factC zeroV ⟨#[]⟩) 23)).setRow W7.heap.size (factC u cs) = W8 ∧ Hid (W8.heap[w.heap.size]? = some (.cells (factC u cs) 23 (0, 0))) ∧ Hid (W8.heap[(w.heap.size + 1)]? = some (.cells (factC v ct) 23 (0, 0))) ∧ Hid (W8.heap[W7.heap.size]? = some (.cells (factC u cs) 23 (0, 0))) ∧ Hid (Below w.heap.size w W8) ∧ Hid (W7.heap.size < W8.heap.size) :=
    ⟨_, rfl, Lib.hid ((setRow_other _ _ _ _ (Nat.ne_of_lt (Array.getElem?_eq_some_iff.1 F7.out).1)).trans (row_aft _ _ _ _ F7.out)), Lib.hid ((setRow_other _ _ _ _ (Nat.ne_of_lt (Array.getElem?_eq_some_iff.1 G7.out).1)).trans (row_aft _ _ _ _ G7.out)), Lib.hid (setRow_heap _ _ _ _ _ _ (heap_new W7 _)), Lib.hid (below_setRow' (B7.out.alloc B7.out.size _) _ _ B7.out.size), Lib.hid (by simp)⟩
  rw [hW8]
  clear hW8 F7 G7 B7
  have hleC := hBC
  clear hBC
  generalize W7.heap.size = AC at *
  go_wp2_with (first
      | (refine wpList_load_fact rfl _ rfl w.heap.size rfl u cs F8.out ?_)
      | (refine wpList_load_fact rfl _ rfl (w.heap.size + 1) rfl v ct G8.out ?_)
      | (refine wpList_load_fact rfl _ rfl AC rfl u cs C8.out ?_))
  go_ret
  exact ⟨rfl, B8.out⟩

set_option maxRecDepth 100000 in
set_option maxHeartbeats 4000000 in
theorem rt_eq (u v : Nat → Int) (s t : ByteArray) (w : World) (a : Addr) (hK : Konst w) (hE : ErrK a w) (hs : s.size ≤ 9223372036854775807) (ht : t.size ≤ 9223372036854775807) (hoku : okT u (cutT s) = true) (hokv : okT v (cutT t) = true) (hc : eqB u v (cutT s) (cutT t) = true) :
    Calls Tryd.prog 6 #[.agg (factC u s), .agg (factC v t)] w fun e W' => e = .returned (.bool true) ∧ Below w.heap.size w W' := by
  have hgE : 0 < w.heap.size := World.block_lt_of_cell? w _ hE
  have HK := Lib.hid hK
  have HE := Lib.hid hE
  clear hK hE
  have HS := Lib.hid (fun W (h : Konst W) (h' : ErrK a W) => sane_calls a W h h')
  have CEu : Hid (∀ W, Calls Tryd.prog 21 #[.agg (factC u (cutT s))] W fun e W' => e = .returned (.tuple #[.string ⟨(encV u (cutT s).data.toList).toArray⟩, .int .i64 0]) ∧ Below W.heap.size W W') := Lib.hid (fun W => by
    have h := Encode_calls u (cutT s) W
    rw [show codeF u (cutT s) = encV u (cutT s).data.toList by unfold codeF; rw [hoku]; rfl, show errF u (cutT s) = 0 by unfold errF; rw [hoku]; rfl] at h
    exact h)
  have CEv : Hid (∀ W, Calls Tryd.prog 21 #[.agg (factC v (cutT t))] W fun e W' => e = .returned (.tuple #[.string ⟨(encV v (cutT t).data.toList).toArray⟩, .int .i64 0]) ∧ Below W.heap.size W W') := Lib.hid (fun W => by
    have h := Encode_calls v (cutT t) W
    rw [show codeF v (cutT t) = encV v (cutT t).data.toList by unfold codeF; rw [hokv]; rfl, show errF v (cutT t) = 0 by unfold errF; rw [hokv]; rfl] at h
    exact h)
  have HV := Lib.hid (fun W => Valid_eq u (cutT s) true hoku W)
  have HD := Lib.hid (fun W (h : ErrK a W) => Decode_code u (cutT s) hoku ⟨(encV u (cutT s).data.toList).toArray⟩ rfl a W h (code_size u s))
  have q1 := fun W => runEq u u (cutT s) (cutT s) W
  rw [eqB_self] at q1
  have q2 := fun W => runEq u v (cutT s) (cutT t) W
  have hST := (code_lists (encV u (cutT s).data.toList) (encV v (cutT t).data.toList)).trans (code_eq u v _ _ hoku hokv)
  rw [hc] at q2 hST
  clear hc hoku hokv
  generalize (⟨(encV u (cutT s).data.toList).toArray⟩ : ByteArray) = S at *
  generalize (⟨(encV v (cutT t).data.toList).toArray⟩ : ByteArray) = T at *
  have HCu := Lib.hid (fun W => cut_calls u s W hs)
  have HCv := Lib.hid (fun W => cut_calls v t W ht)
  have honeU := factC_one u (cutT s)
  have honeV := factC_one v (cutT t)
  generalize cutT s = cs at *
  generalize cutT t = ct at *
  go_enter Tryd.func6, Tryd.ntmps6
  go_upto_region 1 with (fail)
  obtain ⟨W0, hW0, f0, f1, b0⟩ := two_rows w (factC u s) (factC v t) 23 23
  rw [hW0]
  clear hW0
  have F0 := Lib.hid f0
  have G0 := Lib.hid f1
  have B0 := Lib.hid b0
  clear f0 f1 b0
  go_wp2_with fail
  refine (HS.out _ (HK.out.keep B0.out) (HE.out.keep B0.out hgE)).mono ?_
  rintro e W1 ⟨rfl, b1⟩
  have F1 := Lib.hid (Hl.row b1 F0.out)
  have G1 := Lib.hid (Hl.row b1 G0.out)
  have B1 := Lib.hid (B0.out.trans (Below.mono b1 B0.out.size))
  clear F0 G0 B0
  clear b1
  go_wp2_with fail
  refine wp_region_hl_tail 4 W1 (Hl.refl _) (by kernel_rfl) (by kernel_rfl) ?_
  simp only [List.take_succ_cons, List.take_zero]
  repeat (first
    | go_big_quiet_skip
    | (go_big_quiet_want; refine quiet_load_row _ rfl _ rfl _ _ F1.out ?_; simp only [Act.put, List.setIfInBounds_toArray, List.set_cons_zero, List.set_cons_succ]; go_big_quiet_on)
    | (go_big_quiet_want; refine quiet_load_row _ rfl _ rfl _ _ G1.out ?_; simp only [Act.put, List.setIfInBounds_toArray, List.set_cons_zero, List.set_cons_succ]; go_big_quiet_on)
    | (go_big_quiet_want; go_big_quiet_op; first
      | go_big_quiet_on
      | (apply Exists.intro; (with_reducible refine ⟨fun _ => hl_call (HCu.out _), ?_⟩); go_big_quiet_on)
      | (apply Exists.intro; (with_reducible refine ⟨fun _ => hl_call (HCv.out _), ?_⟩); go_big_quiet_on)
      ))
  refine wpQuiet_nil ?_
  intro W2 h2
  simp only [List.drop_succ_cons, List.drop_zero]

  have F2 := Lib.hid (Hl.row h2 F1.out)
  have G2 := Lib.hid (Hl.row h2 G1.out)
  have B2 := Lib.hid (B1.out.trans (Below.mono h2 B1.out.size))
  clear h2 F1 G1 B1
  refine wpList_store_row rfl 23 _ _ rfl w.heap.size (factC u cs) rfl rfl 23 _ F2.out (hiC _ _) rfl honeU ?_
  refine wpList_store_row rfl 23 _ _ rfl (w.heap.size + 1) (factC v ct) rfl rfl 23 _ ((setRow_other _ _ _ _ (by omega)).trans G2.out) (hiC _ _) rfl honeV ?_
  obtain ⟨W3, hW3, F3, G3, B3⟩ : ∃ W3, (W2.setRow w.heap.size (factC u cs)).setRow (w.heap.size + 1) (factC v ct) = W3 ∧ Hid (W3.heap[w.heap.size]? = some (.cells (factC u cs) 23 (0, 0))) ∧ Hid (W3.heap[w.heap.size + 1]? = some (.cells (factC v ct) 23 (0, 0))) ∧ Hid (Below w.heap.size w W3) :=
    ⟨_, rfl, Lib.hid ((setRow_other _ _ _ _ (by omega)).trans (setRow_heap _ _ _ _ _ _ F2.out)), Lib.hid (setRow_heap _ _ _ _ _ _ ((setRow_other _ _ _ _ (by omega)).trans G2.out)), Lib.hid (below_setRow' (below_setRow' B2.out _ _ (Nat.le_refl _)) _ _ (by omega))⟩
  rw [hW3]
  clear hW3 F2 G2 B2
  go_wp2_with (first
      | (refine wpList_load_fact rfl _ rfl w.heap.size rfl u cs F3.out ?_)
      | (refine wpList_load_fact rfl _ rfl (w.heap.size + 1) rfl v ct G3.out ?_))
  refine (CEu.out _).mono ?_
  rintro e W4 ⟨rfl, b4⟩
  have F4 := Lib.hid (Hl.row b4 F3.out)
  have G4 := Lib.hid (Hl.row b4 G3.out)
  have B4 := Lib.hid (B3.out.trans (Below.mono b4 B3.out.size))
  clear F3 G3 B3
  clear b4
  go_wp2_with (first
      | (refine wpList_load_fact rfl _ rfl w.heap.size rfl u cs F4.out ?_)
      | (refine wpList_load_fact rfl _ rfl (w.heap.size + 1) rfl v ct G4.out ?_))
  refine (CEv.out _).mono ?_
  rintro e W5 ⟨rfl, b5⟩
  have F5 := Lib.hid (Hl.row b5 F4.out)
  have G5 := Lib.hid (Hl.row b5 G4.out)
  have B5 := Lib.hid (B4.out.trans (Below.mono b5 B4.out.size))
  clear F4 G4 B4
  clear b5
  go_wp2_with (first
      | (refine wpList_load_fact rfl _ rfl w.heap.size rfl u cs F5.out ?_)
      | (refine wpList_load_fact rfl _ rfl (w.heap.size + 1) rfl v ct G5.out ?_))
  refine (HV.out _).mono ?_
  rintro e W6 ⟨rfl, b6⟩
  have F6 := Lib.hid (Hl.row b6 F5.out)
  have G6 := Lib.hid (Hl.row b6 G5.out)
  have B6 := Lib.hid (B5.out.trans (Below.mono b6 B5.out.size))
  clear F5 G5 B5
  clear b6
  go_wp2_with (first
      | (refine wpList_load_fact rfl _ rfl w.heap.size rfl u cs F6.out ?_)
      | (refine wpList_load_fact rfl _ rfl (w.heap.size + 1) rfl v ct G6.out ?_))
  refine (HD.out _ (HE.out.keep B6.out hgE)).mono ?_
  rintro e W7 ⟨rfl, b7⟩
  have F7 := Lib.hid (Hl.row b7 F6.out)
  have G7 := Lib.hid (Hl.row b7 G6.out)
  have B7 := Lib.hid (B6.out.trans (Below.mono b7 B6.out.size))
  clear F6 G6 B6
  clear b7
  have honeC := factC_one u cs
  go_upto_region 10 with (first
      | (refine wpList_store_row rfl 23 _ _ rfl W7.heap.size (factC u cs) rfl rfl 23 _ (heap_new W7 _) (hiC _ _) rfl honeC ?_)
      | (refine wpList_load_fact rfl _ rfl w.heap.size rfl u cs F7.out ?_)
      | (refine wpList_load_fact rfl _ rfl (w.heap.size + 1) rfl v ct G7.out ?_))
  have hltFC : w.heap.size < W7.heap.size := (Array.getElem?_eq_some_iff.1 F7.out).1
  have hltGC : (w.heap.size + 1) < W7.heap.size := (Array.getElem?_eq_some_iff.1 G7.out).1
  have hBC : w.heap.size ≤ W7.heap.size := B7.out.size
  obtain ⟨W8, hW8, F8, G8, C8, B8, hs8⟩ : ∃ W8, (W7.alloc (.cells (factC zeroV ⟨#[]⟩) 23)).setRow W7.heap.size (factC u cs) = W8 ∧ Hid (W8.heap[w.heap.size]? = some (.cells (factC u cs) 23 (0, 0))) ∧ Hid (W8.heap[(w.heap.size + 1)]? = some (.cells (factC v ct) 23 (0, 0))) ∧ Hid (W8.heap[W7.heap.size]? = some (.cells (factC u cs) 23 (0, 0))) ∧ Hid (Below w.heap.size w W8) ∧ Hid (W7.heap.size < W8.heap.size) :=
    ⟨_, rfl, Lib.hid ((setRow_other _ _ _ _ (Nat.ne_of_lt (Array.getElem?_eq_some_iff.1 F7.out).1)).trans (row_aft _ _ _ _ F7.out)), Lib.hid ((setRow_other _ _ _ _ (Nat.ne_of_lt (Array.getElem?_eq_some_iff.1 G7.out).1)).trans (row_aft _ _ _ _ G7.out)), Lib.hid (setRow_heap _ _ _ _ _ _ (heap_new W7 _)), Lib.hid (below_setRow' (B7.out.alloc B7.out.size _) _ _ B7.out.size), Lib.hid (by simp)⟩
  rw [hW8]
  clear hW8 F7 G7 B7
  have hleC := hBC
  clear hBC
  generalize W7.heap.size = AC at *
  go_wp2_with (first
      | (refine wpList_load_fact rfl _ rfl w.heap.size rfl u cs F8.out ?_)
      | (refine wpList_load_fact rfl _ rfl (w.heap.size + 1) rfl v ct G8.out ?_)
      | (refine wpList_load_fact rfl _ rfl AC rfl u cs C8.out ?_))
  go_ret
  exact ⟨rfl, B8.out⟩

set_option maxRecDepth 100000 in
set_option maxHeartbeats 4000000 in
theorem rt_ne (u v : Nat → Int) (s t : ByteArray) (w : World) (a : Addr) (hK : Konst w) (hE : ErrK a w) (hs : s.size ≤ 9223372036854775807) (ht : t.size ≤ 9223372036854775807) (hoku : okT u (cutT s) = true) (hokv : okT v (cutT t) = true) (hc : eqB u v (cutT s) (cutT t) = false) :
    Calls Tryd.prog 6 #[.agg (factC u s), .agg (factC v t)] w fun e W' => e = .returned (.bool true) ∧ Below w.heap.size w W' := by
  have hgE : 0 < w.heap.size := World.block_lt_of_cell? w _ hE
  have HK := Lib.hid hK
  have HE := Lib.hid hE
  clear hK hE
  have HS := Lib.hid (fun W (h : Konst W) (h' : ErrK a W) => sane_calls a W h h')
  have CEu : Hid (∀ W, Calls Tryd.prog 21 #[.agg (factC u (cutT s))] W fun e W' => e = .returned (.tuple #[.string ⟨(encV u (cutT s).data.toList).toArray⟩, .int .i64 0]) ∧ Below W.heap.size W W') := Lib.hid (fun W => by
    have h := Encode_calls u (cutT s) W
    rw [show codeF u (cutT s) = encV u (cutT s).data.toList by unfold codeF; rw [hoku]; rfl, show errF u (cutT s) = 0 by unfold errF; rw [hoku]; rfl] at h
    exact h)
  have CEv : Hid (∀ W, Calls Tryd.prog 21 #[.agg (factC v (cutT t))] W fun e W' => e = .returned (.tuple #[.string ⟨(encV v (cutT t).data.toList).toArray⟩, .int .i64 0]) ∧ Below W.heap.size W W') := Lib.hid (fun W => by
    have h := Encode_calls v (cutT t) W
    rw [show codeF v (cutT t) = encV v (cutT t).data.toList by unfold codeF; rw [hokv]; rfl, show errF v (cutT t) = 0 by unfold errF; rw [hokv]; rfl] at h
    exact h)
  have HV := Lib.hid (fun W => Valid_eq u (cutT s) true hoku W)
  have HD := Lib.hid (fun W (h : ErrK a W) => Decode_code u (cutT s) hoku ⟨(encV u (cutT s).data.toList).toArray⟩ rfl a W h (code_size u s))
  have q1 := fun W => runEq u u (cutT s) (cutT s) W
  rw [eqB_self] at q1
  have q2 := fun W => runEq u v (cutT s) (cutT t) W
  have hST := (code_lists (encV u (cutT s).data.toList) (encV v (cutT t).data.toList)).trans (code_eq u v _ _ hoku hokv)
  rw [hc] at q2 hST
  clear hc hoku hokv
  generalize (⟨(encV u (cutT s).data.toList).toArray⟩ : ByteArray) = S at *
  generalize (⟨(encV v (cutT t).data.toList).toArray⟩ : ByteArray) = T at *
  have HCu := Lib.hid (fun W => cut_calls u s W hs)
  have HCv := Lib.hid (fun W => cut_calls v t W ht)
  have honeU := factC_one u (cutT s)
  have honeV := factC_one v (cutT t)
  generalize cutT s = cs at *
  generalize cutT t = ct at *
  go_enter Tryd.func6, Tryd.ntmps6
  go_upto_region 1 with (fail)
  obtain ⟨W0, hW0, f0, f1, b0⟩ := two_rows w (factC u s) (factC v t) 23 23
  rw [hW0]
  clear hW0
  have F0 := Lib.hid f0
  have G0 := Lib.hid f1
  have B0 := Lib.hid b0
  clear f0 f1 b0
  go_wp2_with fail
  refine (HS.out _ (HK.out.keep B0.out) (HE.out.keep B0.out hgE)).mono ?_
  rintro e W1 ⟨rfl, b1⟩
  have F1 := Lib.hid (Hl.row b1 F0.out)
  have G1 := Lib.hid (Hl.row b1 G0.out)
  have B1 := Lib.hid (B0.out.trans (Below.mono b1 B0.out.size))
  clear F0 G0 B0
  clear b1
  go_wp2_with fail
  refine wp_region_hl_tail 4 W1 (Hl.refl _) (by kernel_rfl) (by kernel_rfl) ?_
  simp only [List.take_succ_cons, List.take_zero]
  repeat (first
    | go_big_quiet_skip
    | (go_big_quiet_want; refine quiet_load_row _ rfl _ rfl _ _ F1.out ?_; simp only [Act.put, List.setIfInBounds_toArray, List.set_cons_zero, List.set_cons_succ]; go_big_quiet_on)
    | (go_big_quiet_want; refine quiet_load_row _ rfl _ rfl _ _ G1.out ?_; simp only [Act.put, List.setIfInBounds_toArray, List.set_cons_zero, List.set_cons_succ]; go_big_quiet_on)
    | (go_big_quiet_want; go_big_quiet_op; first
      | go_big_quiet_on
      | (apply Exists.intro; (with_reducible refine ⟨fun _ => hl_call (HCu.out _), ?_⟩); go_big_quiet_on)
      | (apply Exists.intro; (with_reducible refine ⟨fun _ => hl_call (HCv.out _), ?_⟩); go_big_quiet_on)
      ))
  refine wpQuiet_nil ?_
  intro W2 h2
  simp only [List.drop_succ_cons, List.drop_zero]

  have F2 := Lib.hid (Hl.row h2 F1.out)
  have G2 := Lib.hid (Hl.row h2 G1.out)
  have B2 := Lib.hid (B1.out.trans (Below.mono h2 B1.out.size))
  clear h2 F1 G1 B1
  refine wpList_store_row rfl 23 _ _ rfl w.heap.size (factC u cs) rfl rfl 23 _ F2.out (hiC _ _) rfl honeU ?_
  refine wpList_store_row rfl 23 _ _ rfl (w.heap.size + 1) (factC v ct) rfl rfl 23 _ ((setRow_other _ _ _ _ (by omega)).trans G2.out) (hiC _ _) rfl honeV ?_
  obtain ⟨W3, hW3, F3, G3, B3⟩ : ∃ W3, (W2.setRow w.heap.size (factC u cs)).setRow (w.heap.size + 1) (factC v ct) = W3 ∧ Hid (W3.heap[w.heap.size]? = some (.cells (factC u cs) 23 (0, 0))) ∧ Hid (W3.heap[w.heap.size + 1]? = some (.cells (factC v ct) 23 (0, 0))) ∧ Hid (Below w.heap.size w W3) :=
    ⟨_, rfl, Lib.hid ((setRow_other _ _ _ _ (by omega)).trans (setRow_heap _ _ _ _ _ _ F2.out)), Lib.hid (setRow_heap _ _ _ _ _ _ ((setRow_other _ _ _ _ (by omega)).trans G2.out)), Lib.hid (below_setRow' (below_setRow' B2.out _ _ (Nat.le_refl _)) _ _ (by omega))⟩
  rw [hW3]
  clear hW3 F2 G2 B2
  go_wp2_with (first
      | (refine wpList_load_fact rfl _ rfl w.heap.size rfl u cs F3.out ?_)
      | (refine wpList_load_fact rfl _ rfl (w.heap.size + 1) rfl v ct G3.out ?_))
  refine (CEu.out _).mono ?_
  rintro e W4 ⟨rfl, b4⟩
  have F4 := Lib.hid (Hl.row b4 F3.out)
  have G4 := Lib.hid (Hl.row b4 G3.out)
  have B4 := Lib.hid (B3.out.trans (Below.mono b4 B3.out.size))
  clear F3 G3 B3
  clear b4
  go_wp2_with (first
      | (refine wpList_load_fact rfl _ rfl w.heap.size rfl u cs F4.out ?_)
      | (refine wpList_load_fact rfl _ rfl (w.heap.size + 1) rfl v ct G4.out ?_))
  refine (CEv.out _).mono ?_
  rintro e W5 ⟨rfl, b5⟩
  have F5 := Lib.hid (Hl.row b5 F4.out)
  have G5 := Lib.hid (Hl.row b5 G4.out)
  have B5 := Lib.hid (B4.out.trans (Below.mono b5 B4.out.size))
  clear F4 G4 B4
  clear b5
  go_wp2_with (first
      | (refine wpList_load_fact rfl _ rfl w.heap.size rfl u cs F5.out ?_)
      | (refine wpList_load_fact rfl _ rfl (w.heap.size + 1) rfl v ct G5.out ?_))
  refine (HV.out _).mono ?_
  rintro e W6 ⟨rfl, b6⟩
  have F6 := Lib.hid (Hl.row b6 F5.out)
  have G6 := Lib.hid (Hl.row b6 G5.out)
  have B6 := Lib.hid (B5.out.trans (Below.mono b6 B5.out.size))
  clear F5 G5 B5
  clear b6
  go_wp2_with (first
      | (refine wpList_load_fact rfl _ rfl w.heap.size rfl u cs F6.out ?_)
      | (refine wpList_load_fact rfl _ rfl (w.heap.size + 1) rfl v ct G6.out ?_))
  refine (HD.out _ (HE.out.keep B6.out hgE)).mono ?_
  rintro e W7 ⟨rfl, b7⟩
  have F7 := Lib.hid (Hl.row b7 F6.out)
  have G7 := Lib.hid (Hl.row b7 G6.out)
  have B7 := Lib.hid (B6.out.trans (Below.mono b7 B6.out.size))
  clear F6 G6 B6
  clear b7
  have honeC := factC_one u cs
  go_upto_region 10 with (first
      | (refine wpList_store_row rfl 23 _ _ rfl W7.heap.size (factC u cs) rfl rfl 23 _ (heap_new W7 _) (hiC _ _) rfl honeC ?_)
      | (refine wpList_load_fact rfl _ rfl w.heap.size rfl u cs F7.out ?_)
      | (refine wpList_load_fact rfl _ rfl (w.heap.size + 1) rfl v ct G7.out ?_))
  have hltFC : w.heap.size < W7.heap.size := (Array.getElem?_eq_some_iff.1 F7.out).1
  have hltGC : (w.heap.size + 1) < W7.heap.size := (Array.getElem?_eq_some_iff.1 G7.out).1
  have hBC : w.heap.size ≤ W7.heap.size := B7.out.size
  obtain ⟨W8, hW8, F8, G8, C8, B8, hs8⟩ : ∃ W8, (W7.alloc (.cells (factC zeroV ⟨#[]⟩) 23)).setRow W7.heap.size (factC u cs) = W8 ∧ Hid (W8.heap[w.heap.size]? = some (.cells (factC u cs) 23 (0, 0))) ∧ Hid (W8.heap[(w.heap.size + 1)]? = some (.cells (factC v ct) 23 (0, 0))) ∧ Hid (W8.heap[W7.heap.size]? = some (.cells (factC u cs) 23 (0, 0))) ∧ Hid (Below w.heap.size w W8) ∧ Hid (W7.heap.size < W8.heap.size) :=
    ⟨_, rfl, Lib.hid ((setRow_other _ _ _ _ (Nat.ne_of_lt (Array.getElem?_eq_some_iff.1 F7.out).1)).trans (row_aft _ _ _ _ F7.out)), Lib.hid ((setRow_other _ _ _ _ (Nat.ne_of_lt (Array.getElem?_eq_some_iff.1 G7.out).1)).trans (row_aft _ _ _ _ G7.out)), Lib.hid (setRow_heap _ _ _ _ _ _ (heap_new W7 _)), Lib.hid (below_setRow' (B7.out.alloc B7.out.size _) _ _ B7.out.size), Lib.hid (by simp)⟩
  rw [hW8]
  clear hW8 F7 G7 B7
  have hleC := hBC
  clear hBC
  generalize W7.heap.size = AC at *
  go_wp2_with (first
      | (refine wpList_load_fact rfl _ rfl w.heap.size rfl u cs F8.out ?_)
      | (refine wpList_load_fact rfl _ rfl (w.heap.size + 1) rfl v ct G8.out ?_)
      | (refine wpList_load_fact rfl _ rfl AC rfl u cs C8.out ?_))
  go_ret
  exact ⟨rfl, B8.out⟩

theorem rt_walk (u : Nat → Int) (s : ByteArray) (v : Nat → Int) (t : ByteArray) (w : World) (a : Addr) (hK : Konst w) (hE : ErrK a w) (_ : Ints u) (hs : s.size ≤ 9223372036854775807) (_ : Ints v) (ht : t.size ≤ 9223372036854775807) :
    Calls Tryd.prog 6 #[.agg (factC u s), .agg (factC v t)] w fun e W' => e = .returned (.bool true) ∧ Below w.heap.size w W' := by
  rcases hu : okT u (cutT s) with _ | _
  · exact rt_bad u v s t w a hK hE hs ht hu
  · rcases hv : okT v (cutT t) with _ | _
    · exact rt_half u v s t w a hK hE hs ht hu hv
    · rcases hc : eqB u v (cutT s) (cutT t) with _ | _
      · exact rt_ne u v s t w a hK hE hs ht hu hv hc
      · exact rt_eq u v s t w a hK hE hs ht hu hv hc

end Go.Proofs.YtnbeebndcgoalaaDoor
