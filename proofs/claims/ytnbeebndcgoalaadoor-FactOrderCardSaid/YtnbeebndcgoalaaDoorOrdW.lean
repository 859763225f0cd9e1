/- The walk of FactOrder. Conditions: the table of constants reads as the program lays it; the variable errForm holds an error of its own. -/
import Derived.Test.YtnbeebndcgoalaaDoorIdW
namespace Go.Proofs.YtnbeebndcgoalaaDoor
open Go.RowKit
theorem three_rows (w : World) (c d e : Array Value) (s t r : TypeId) : ∃ W0, ((w.alloc (.cells c s)).alloc (.cells d t)).alloc (.cells e r) = W0 ∧ W0.heap[w.heap.size]? = some (.cells c s (0, 0)) ∧ W0.heap[w.heap.size + 1]? = some (.cells d t (0, 0)) ∧ W0.heap[w.heap.size + 2]? = some (.cells e r (0, 0)) ∧ Below w.heap.size w W0 :=
  ⟨_, rfl, row_aft _ _ _ _ (row_aft _ _ _ _ (heap_new w _)), row_aft _ _ _ _ (by have := heap_new (w.alloc (.cells c s)) (.cells d t); simpa using this), by have := heap_new ((w.alloc (.cells c s)).alloc (.cells d t)) (.cells e r); simpa using this,
    (((Below.refl _ w).alloc (Nat.le_refl _) _).alloc (by simp) _).alloc (by simp; omega) _⟩
theorem pv_some (u v : Nat → Int) (s t : ByteArray) (h : pvB u s v t = true) : okT u s = true ∧ okT v t = true ∧ kyB u v = true ∧ (v 2 < u 2 ∨ (u 2 = v 2 ∧ Op.bytesLess (encV v t.data.toList) (encV u s.data.toList) = true)) := by
  unfold pvB at h
  simp only [Bool.and_eq_true, Bool.or_eq_true, decide_eq_true_eq] at h
  exact h
theorem pv_mk (u v : Nat → Int) (s t : ByteArray) (h : okT u s = true ∧ okT v t = true ∧ kyB u v = true ∧ (v 2 < u 2 ∨ (u 2 = v 2 ∧ Op.bytesLess (encV v t.data.toList) (encV u s.data.toList) = true))) : pvB u s v t = true := by
  unfold pvB
  simp only [Bool.and_eq_true, Bool.or_eq_true, decide_eq_true_eq]
  exact h
theorem ky_sym (u v : Nat → Int) : kyB u v = kyB v u := decide_eq_decide.2 ⟨fun ⟨a, b⟩ => ⟨a.symm, b.symm⟩, fun ⟨a, b⟩ => ⟨a.symm, b.symm⟩⟩
theorem pv_irr (u : Nat → Int) (s : ByteArray) : pvB u s u s = false := by
  rcases h : pvB u s u s with _ | _
  · rfl
  · obtain ⟨-, -, -, h1 | ⟨-, h1⟩⟩ := pv_some _ _ _ _ h
    · omega
    · rw [bl_irr] at h1; cases h1
theorem pv_asym (u v : Nat → Int) (s t : ByteArray) (h : pvB u s v t = true) : pvB v t u s = false := by
  rcases h' : pvB v t u s with _ | _
  · rfl
  · obtain ⟨-, -, -, h1⟩ := pv_some _ _ _ _ h
    obtain ⟨-, -, -, h2⟩ := pv_some _ _ _ _ h'
    rcases h1 with h1 | ⟨h1, h3⟩
    · rcases h2 with h2 | ⟨h2, -⟩ <;> omega
    · rcases h2 with h2 | ⟨h2, h4⟩
      · omega
      · have := bl_trans _ _ _ h3 h4
        rw [bl_irr] at this; cases this
theorem pv_neq (u v : Nat → Int) (s t : ByteArray) (h : pvB u s v t = true) : eqB u v s t = false := by
  rcases hc : eqB u v s t with _ | _
  · rfl
  · obtain ⟨h1, h2⟩ := (eqB_iff _ _ _ _).1 hc
    obtain ⟨-, -, -, h3 | ⟨-, h3⟩⟩ := pv_some _ _ _ _ h
    · rw [h1 2 (by omega)] at h3; omega
    · rw [Lib.toList_data, Lib.toList_data] at h2
      rw [h2, encV_congr u v _ h1, bl_irr] at h3; cases h3
theorem pv_total (u v : Nat → Int) (s t : ByteArray) (hu : okT u s = true) (hv : okT v t = true) (hk : kyB u v = true) (h1 : pvB u s v t = false) (h2 : pvB v t u s = false) : eqB u v s t = true := by
  rw [← code_eq u v s t hu hv, beq_iff_eq]
  have h2' : u 2 = v 2 := by
    rcases Int.lt_trichotomy (u 2) (v 2) with h | h | h
    · rw [pv_mk v u t s ⟨hv, hu, (ky_sym u v).symm.trans hk, .inl h⟩] at h2; cases h2
    · exact h
    · rw [pv_mk u v s t ⟨hu, hv, hk, .inl h⟩] at h1; cases h1
  by_cases he : encV u s.data.toList = encV v t.data.toList
  · exact he
  · have := bl_tri _ _ he
    rcases hb : Op.bytesLess (encV u s.data.toList) (encV v t.data.toList) with _ | _
    · rw [hb] at this
      rw [pv_mk u v s t ⟨hu, hv, hk, .inr ⟨h2', by simpa using this.symm⟩⟩] at h1; cases h1
    · rw [pv_mk v u t s ⟨hv, hu, (ky_sym u v).symm.trans hk, .inr ⟨h2'.symm, hb⟩⟩] at h2; cases h2
theorem pv_trans (u v x : Nat → Int) (s t r : ByteArray) (h : pvB u s v t = true) (h' : pvB v t x r = true) : pvB u s x r = true := by
  obtain ⟨a1, -, a3, h1⟩ := pv_some _ _ _ _ h
  obtain ⟨-, b2, b3, h2⟩ := pv_some _ _ _ _ h'
  refine pv_mk _ _ _ _ ⟨a1, b2, ?_, ?_⟩
  · obtain ⟨c1, c2⟩ := of_decide_eq_true a3
    obtain ⟨d1, d2⟩ := of_decide_eq_true b3
    exact decide_eq_true ⟨c1.trans d1, c2.trans d2⟩
  · rcases h1 with h1 | ⟨h1, h3⟩
    · left; rcases h2 with h2 | ⟨h2, -⟩ <;> omega
    · rcases h2 with h2 | ⟨h2, h4⟩
      · left; omega
      · right; exact ⟨by omega, bl_trans _ _ _ h4 h3⟩
theorem pv_ge (u v : Nat → Int) (s t : ByteArray) (h : pvB u s v t = true) : v 2 ≤ u 2 := by
  obtain ⟨-, -, -, h1⟩ := pv_some _ _ _ _ h
  omega
theorem Prevails_eq (u v : Nat → Int) (s t : ByteArray) (c : Bool) (h : pvB u s v t = c) (w : World) : Calls Tryd.prog 19 #[.agg (factC u s), .agg (factC v t)] w fun e W' => e = .returned (.bool c) ∧ Below w.heap.size w W' := h ▸ Prevails_calls u v s t w

set_option maxRecDepth 100000 in
set_option maxHeartbeats 4000000 in
theorem ordA (u v x : Nat → Int) (s t r : ByteArray) (w : World) (a : Addr) (hK : Konst w) (hE : ErrK a w) (hs : s.size ≤ 9223372036854775807) (ht : t.size ≤ 9223372036854775807) (hr : r.size ≤ 9223372036854775807) (hab : pvB u (cutT s) v (cutT t) = true) (hba : pvB v (cutT t) u (cutT s) = false) (hoa : okT u (cutT s) = true) (hob : okT v (cutT t) = true) (hky : kyB u v = true) (heq : eqB u v (cutT s) (cutT t) = false) (hbc : pvB v (cutT t) x (cutT r) = false) :
    Calls Tryd.prog 9 #[.agg (factC u s), .agg (factC v t), .agg (factC x r)] w fun e W' => e = .returned (.bool true) ∧ Below w.heap.size w W' := by
  have hgE : 0 < w.heap.size := World.block_lt_of_cell? w _ hE
  have HK := Lib.hid hK
  have HE := Lib.hid hE
  clear hK hE
  have HS := Lib.hid (fun W (h : Konst W) (h' : ErrK a W) => sane_calls a W h h')
  have Pab := Lib.hid (fun W => Prevails_eq u v (cutT s) (cutT t) true hab W)
  have Pba := Lib.hid (fun W => Prevails_eq v u (cutT t) (cutT s) false hba W)
  have Paa := Lib.hid (fun W => Prevails_eq u u (cutT s) (cutT s) false (pv_irr u (cutT s)) W)
  have HVa := Lib.hid (fun W => Valid_eq u (cutT s) true hoa W)
  have hge := pv_ge u v _ _ hab
  have hlt : decide (u 2 < v 2) = false := decide_eq_false (by omega)
  have HVb := Lib.hid (fun W => Valid_eq v (cutT t) true hob W)
  have KA := Lib.hid (fun W => Key_calls u (cutT s) W)
  have KB := Lib.hid (fun W => Key_calls v (cutT t) W)
  have hq := fun W => key_eql u v true hky W
  have hn := fun W => runNe u v (cutT s) (cutT t) W
  rw [heq] at hn
  have Pbc := Lib.hid (fun W => Prevails_eq v x (cutT t) (cutT r) false hbc W)
  clear hab hba hoa hob hky heq hbc
  have HCu := Lib.hid (fun W => cut_calls u s W hs)
  have HCv := Lib.hid (fun W => cut_calls v t W ht)
  have HCx := Lib.hid (fun W => cut_calls x r W hr)
  have honeU := factC_one u (cutT s)
  have honeV := factC_one v (cutT t)
  have honeX := factC_one x (cutT r)
  generalize cutT s = cs at *
  generalize cutT t = ct at *
  generalize cutT r = cr at *
  go_enter Tryd.func9, Tryd.ntmps9
  go_upto_region 1 with (fail)
  obtain ⟨W0, hW0, f0, f1, f2, b0⟩ := three_rows w (factC u s) (factC v t) (factC x r) 23 23 23
  rw [hW0]
  clear hW0
  have F0 := Lib.hid f0
  have G0 := Lib.hid f1
  have H0 := Lib.hid f2
  have B0 := Lib.hid b0
  clear f0 f1 f2 b0
  go_wp2_with fail
  refine (HS.out _ (HK.out.keep B0.out) (HE.out.keep B0.out hgE)).mono ?_
  rintro e W1 ⟨rfl, b1⟩
  have F1 := Lib.hid (Hl.row b1 F0.out)
  have G1 := Lib.hid (Hl.row b1 G0.out)
  have H1 := Lib.hid (Hl.row b1 H0.out)
  have B1 := Lib.hid (B0.out.trans (Below.mono b1 B0.out.size))
  clear F0 G0 H0 B0
  clear b1
  go_wp2_with fail
  refine wp_region_hl_tail 6 W1 (Hl.refl _) (by kernel_rfl) (by kernel_rfl) ?_
  simp only [List.take_succ_cons, List.take_zero]
  repeat (first
    | go_big_quiet_skip
    | (go_big_quiet_want; refine quiet_load_row _ rfl _ rfl _ _ F1.out ?_; simp only [Act.put, List.setIfInBounds_toArray, List.set_cons_zero, List.set_cons_succ]; go_big_quiet_on)
    | (go_big_quiet_want; refine quiet_load_row _ rfl _ rfl _ _ G1.out ?_; simp only [Act.put, List.setIfInBounds_toArray, List.set_cons_zero, List.set_cons_succ]; go_big_quiet_on)
    | (go_big_quiet_want; refine quiet_load_row _ rfl _ rfl _ _ H1.out ?_; simp only [Act.put, List.setIfInBounds_toArray, List.set_cons_zero, List.set_cons_succ]; go_big_quiet_on)
    | (go_big_quiet_want; go_big_quiet_op; first
      | go_big_quiet_on
      | (apply Exists.intro; (with_reducible refine ⟨fun _ => hl_call (HCu.out _), ?_⟩); go_big_quiet_on)
      | (apply Exists.intro; (with_reducible refine ⟨fun _ => hl_call (HCv.out _), ?_⟩); go_big_quiet_on)
      | (apply Exists.intro; (with_reducible refine ⟨fun _ => hl_call (HCx.out _), ?_⟩); go_big_quiet_on)
      ))
  refine wpQuiet_nil ?_
  intro W2 h2
  simp only [List.drop_succ_cons, List.drop_zero]

  have F2 := Lib.hid (Hl.row h2 F1.out)
  have G2 := Lib.hid (Hl.row h2 G1.out)
  have H2 := Lib.hid (Hl.row h2 H1.out)
  have B2 := Lib.hid (B1.out.trans (Below.mono h2 B1.out.size))
  clear h2 F1 G1 H1 B1
  refine wpList_store_row rfl 23 _ _ rfl w.heap.size (factC u cs) rfl rfl 23 _ F2.out (hiC _ _) rfl honeU ?_
  refine wpList_store_row rfl 23 _ _ rfl (w.heap.size + 1) (factC v ct) rfl rfl 23 _ ((setRow_other _ _ _ _ (by omega)).trans G2.out) (hiC _ _) rfl honeV ?_
  refine wpList_store_row rfl 23 _ _ rfl (w.heap.size + 2) (factC x cr) rfl rfl 23 _ ((setRow_other _ _ _ _ (by omega)).trans ((setRow_other _ _ _ _ (by omega)).trans H2.out)) (hiC _ _) rfl honeX ?_
  obtain ⟨W3, hW3, F3, G3, H3, B3⟩ : ∃ W3, ((W2.setRow w.heap.size (factC u cs)).setRow (w.heap.size + 1) (factC v ct)).setRow (w.heap.size + 2) (factC x cr) = W3 ∧ Hid (W3.heap[w.heap.size]? = some (.cells (factC u cs) 23 (0, 0))) ∧ Hid (W3.heap[w.heap.size + 1]? = some (.cells (factC v ct) 23 (0, 0))) ∧ Hid (W3.heap[w.heap.size + 2]? = some (.cells (factC x cr) 23 (0, 0))) ∧ Hid (Below w.heap.size w W3) :=
    ⟨_, rfl, Lib.hid ((setRow_other _ _ _ _ (by omega)).trans ((setRow_other _ _ _ _ (by omega)).trans (setRow_heap _ _ _ _ _ _ F2.out))), Lib.hid ((setRow_other _ _ _ _ (by omega)).trans (setRow_heap _ _ _ _ _ _ ((setRow_other _ _ _ _ (by omega)).trans G2.out))), Lib.hid (setRow_heap _ _ _ _ _ _ ((setRow_other _ _ _ _ (by omega)).trans ((setRow_other _ _ _ _ (by omega)).trans H2.out))), Lib.hid (below_setRow' (below_setRow' (below_setRow' B2.out _ _ (Nat.le_refl _)) _ _ (by omega)) _ _ (by omega))⟩
  rw [hW3]
  clear hW3 F2 G2 H2 B2
  go_wp2_with (first
      | (refine wpList_load_fact rfl _ rfl w.heap.size rfl u cs F3.out ?_)
      | (refine wpList_load_fact rfl _ rfl (w.heap.size + 1) rfl v ct G3.out ?_)
      | (refine wpList_load_fact rfl _ rfl (w.heap.size + 2) rfl x cr H3.out ?_))
  refine (Pab.out _).mono ?_
  rintro e W4 ⟨rfl, b4⟩
  have F4 := Lib.hid (Hl.row b4 F3.out)
  have G4 := Lib.hid (Hl.row b4 G3.out)
  have H4 := Lib.hid (Hl.row b4 H3.out)
  have B4 := Lib.hid (B3.out.trans (Below.mono b4 B3.out.size))
  clear F3 G3 H3 B3
  clear b4
  go_wp2_with (first
      | (refine wpList_load_fact rfl _ rfl w.heap.size rfl u cs F4.out ?_)
      | (refine wpList_load_fact rfl _ rfl (w.heap.size + 1) rfl v ct G4.out ?_)
      | (refine wpList_load_fact rfl _ rfl (w.heap.size + 2) rfl x cr H4.out ?_))
  refine (Pba.out _).mono ?_
  rintro e W5 ⟨rfl, b5⟩
  have F5 := Lib.hid (Hl.row b5 F4.out)
  have G5 := Lib.hid (Hl.row b5 G4.out)
  have H5 := Lib.hid (Hl.row b5 H4.out)
  have B5 := Lib.hid (B4.out.trans (Below.mono b5 B4.out.size))
  clear F4 G4 H4 B4
  clear b5
  go_wp2_with (first
      | (refine wpList_load_fact rfl _ rfl w.heap.size rfl u cs F5.out ?_)
      | (refine wpList_load_fact rfl _ rfl (w.heap.size + 1) rfl v ct G5.out ?_)
      | (refine wpList_load_fact rfl _ rfl (w.heap.size + 2) rfl x cr H5.out ?_))
  refine wp_region_hl W5 (Hl.refl _) (by kernel_rfl) (by kernel_rfl) ?_
  repeat (first
    | go_big_quiet_skip
    | (go_big_quiet_want; refine quiet_load_row _ rfl _ rfl _ _ F5.out ?_; simp only [Act.put, List.setIfInBounds_toArray, List.set_cons_zero, List.set_cons_succ]; go_big_quiet_on)
    | (go_big_quiet_want; refine quiet_load_row _ rfl _ rfl _ _ G5.out ?_; simp only [Act.put, List.setIfInBounds_toArray, List.set_cons_zero, List.set_cons_succ]; go_big_quiet_on)
    | (go_big_quiet_want; refine quiet_load_row _ rfl _ rfl _ _ H5.out ?_; simp only [Act.put, List.setIfInBounds_toArray, List.set_cons_zero, List.set_cons_succ]; go_big_quiet_on)
    | (go_big_quiet_want; go_big_quiet_op; first
      | go_big_quiet_on
      | (apply Exists.intro; (with_reducible refine ⟨fun _ => hl_call (HVa.out _), ?_⟩); go_big_quiet_on)
      | (apply Exists.intro; (with_reducible refine ⟨fun _ => hl_call (HVb.out _), ?_⟩); go_big_quiet_on)
      | (apply Exists.intro; (with_reducible refine ⟨fun _ => hl_call (KA.out _), ?_⟩); go_big_quiet_on)
      | (apply Exists.intro; (with_reducible refine ⟨fun _ => hl_call (KB.out _), ?_⟩); go_big_quiet_on)
      ))
  refine wpQuiet_nil ?_
  intro W6 h6
  have F6 := Lib.hid (Hl.row h6 F5.out)
  have G6 := Lib.hid (Hl.row h6 G5.out)
  have H6 := Lib.hid (Hl.row h6 H5.out)
  have B6 := Lib.hid (B5.out.trans (Below.mono h6 B5.out.size))
  clear F5 G5 H5 B5
  clear h6
  obtain ⟨-, -, da, -⟩ := row18x F6.out
  obtain ⟨-, -, db, -⟩ := row18x G6.out
  obtain ⟨-, -, ca, -⟩ := row18 F6.out
  obtain ⟨-, -, cb, -⟩ := row18 G6.out
  go_wp2_with (first
      | (refine wpList_load_fact rfl _ rfl w.heap.size rfl u cs F6.out ?_)
      | (refine wpList_load_fact rfl _ rfl (w.heap.size + 1) rfl v ct G6.out ?_)
      | (refine wpList_load_fact rfl _ rfl (w.heap.size + 2) rfl x cr H6.out ?_))
  refine (Paa.out _).mono ?_
  rintro e W7 ⟨rfl, b7⟩
  have F7 := Lib.hid (Hl.row b7 F6.out)
  have G7 := Lib.hid (Hl.row b7 G6.out)
  have H7 := Lib.hid (Hl.row b7 H6.out)
  have B7 := Lib.hid (B6.out.trans (Below.mono b7 B6.out.size))
  clear F6 G6 H6 B6
  clear b7
  go_wp2_with (first
      | (refine wpList_load_fact rfl _ rfl w.heap.size rfl u cs F7.out ?_)
      | (refine wpList_load_fact rfl _ rfl (w.heap.size + 1) rfl v ct G7.out ?_)
      | (refine wpList_load_fact rfl _ rfl (w.heap.size + 2) rfl x cr H7.out ?_))
  refine (Pbc.out _).mono ?_
  rintro e W8 ⟨rfl, b8⟩
  have F8 := Lib.hid (Hl.row b8 F7.out)
  have G8 := Lib.hid (Hl.row b8 G7.out)
  have H8 := Lib.hid (Hl.row b8 H7.out)
  have B8 := Lib.hid (B7.out.trans (Below.mono b8 B7.out.size))
  clear F7 G7 H7 B7
  clear b8
  go_wp2_with (first
      | (refine wpList_load_fact rfl _ rfl w.heap.size rfl u cs F8.out ?_)
      | (refine wpList_load_fact rfl _ rfl (w.heap.size + 1) rfl v ct G8.out ?_)
      | (refine wpList_load_fact rfl _ rfl (w.heap.size + 2) rfl x cr H8.out ?_))
  go_ret
  exact ⟨rfl, B8.out⟩

set_option maxRecDepth 100000 in
set_option maxHeartbeats 4000000 in
theorem ordB (u v x : Nat → Int) (s t r : ByteArray) (w : World) (a : Addr) (hK : Konst w) (hE : ErrK a w) (hs : s.size ≤ 9223372036854775807) (ht : t.size ≤ 9223372036854775807) (hr : r.size ≤ 9223372036854775807) (hab : pvB u (cutT s) v (cutT t) = true) (hba : pvB v (cutT t) u (cutT s) = false) (hoa : okT u (cutT s) = true) (hob : okT v (cutT t) = true) (hky : kyB u v = true) (heq : eqB u v (cutT s) (cutT t) = false) (hbc : pvB v (cutT t) x (cutT r) = true) (hac : pvB u (cutT s) x (cutT r) = true) :
    Calls Tryd.prog 9 #[.agg (factC u s), .agg (factC v t), .agg (factC x r)] w fun e W' => e = .returned (.bool true) ∧ Below w.heap.size w W' := by
  have hgE : 0 < w.heap.size := World.block_lt_of_cell? w _ hE
  have HK := Lib.hid hK
  have HE := Lib.hid hE
  clear hK hE
  have HS := Lib.hid (fun W (h : Konst W) (h' : ErrK a W) => sane_calls a W h h')
  have Pab := Lib.hid (fun W => Prevails_eq u v (cutT s) (cutT t) true hab W)
  have Pba := Lib.hid (fun W => Prevails_eq v u (cutT t) (cutT s) false hba W)
  have Paa := Lib.hid (fun W => Prevails_eq u u (cutT s) (cutT s) false (pv_irr u (cutT s)) W)
  have HVa := Lib.hid (fun W => Valid_eq u (cutT s) true hoa W)
  have hge := pv_ge u v _ _ hab
  have hlt : decide (u 2 < v 2) = false := decide_eq_false (by omega)
  have HVb := Lib.hid (fun W => Valid_eq v (cutT t) true hob W)
  have KA := Lib.hid (fun W => Key_calls u (cutT s) W)
  have KB := Lib.hid (fun W => Key_calls v (cutT t) W)
  have hq := fun W => key_eql u v true hky W
  have hn := fun W => runNe u v (cutT s) (cutT t) W
  rw [heq] at hn
  have Pbc := Lib.hid (fun W => Prevails_eq v x (cutT t) (cutT r) true hbc W)
  have Pac := Lib.hid (fun W => Prevails_eq u x (cutT s) (cutT r) true hac W)
  clear hab hba hoa hob hky heq hbc hac
  have HCu := Lib.hid (fun W => cut_calls u s W hs)
  have HCv := Lib.hid (fun W => cut_calls v t W ht)
  have HCx := Lib.hid (fun W => cut_calls x r W hr)
  have honeU := factC_one u (cutT s)
  have honeV := factC_one v (cutT t)
  have honeX := factC_one x (cutT r)
  generalize cutT s = cs at *
  generalize cutT t = ct at *
  generalize cutT r = cr at *
  go_enter Tryd.func9, Tryd.ntmps9
  go_upto_region 1 with (fail)
  obtain ⟨W0, hW0, f0, f1, f2, b0⟩ := three_rows w (factC u s) (factC v t) (factC x r) 23 23 23
  rw [hW0]
  clear hW0
  have F0 := Lib.hid f0
  have G0 := Lib.hid f1
  have H0 := Lib.hid f2
  have B0 := Lib.hid b0
  clear f0 f1 f2 b0
  go_wp2_with fail
  refine (HS.out _ (HK.out.keep B0.out) (HE.out.keep B0.out hgE)).mono ?_
  rintro e W1 ⟨rfl, b1⟩
  have F1 := Lib.hid (Hl.row b1 F0.out)
  have G1 := Lib.hid (Hl.row b1 G0.out)
  have H1 := Lib.hid (Hl.row b1 H0.out)
  have B1 := Lib.hid (B0.out.trans (Below.mono b1 B0.out.size))
  clear F0 G0 H0 B0
  clear b1
  go_wp2_with fail
  refine wp_region_hl_tail 6 W1 (Hl.refl _) (by kernel_rfl) (by kernel_rfl) ?_
  simp only [List.take_succ_cons, List.take_zero]
  repeat (first
    | go_big_quiet_skip
    | (go_big_quiet_want; refine quiet_load_row _ rfl _ rfl _ _ F1.out ?_; simp only [Act.put, List.setIfInBounds_toArray, List.set_cons_zero, List.set_cons_succ]; go_big_quiet_on)
    | (go_big_quiet_want; refine quiet_load_row _ rfl _ rfl _ _ G1.out ?_; simp only [Act.put, List.setIfInBounds_toArray, List.set_cons_zero, List.set_cons_succ]; go_big_quiet_on)
    | (go_big_quiet_want; refine quiet_load_row _ rfl _ rfl _ _ H1.out ?_; simp only [Act.put, List.setIfInBounds_toArray, List.set_cons_zero, List.set_cons_succ]; go_big_quiet_on)
    | (go_big_quiet_want; go_big_quiet_op; first
      | go_big_quiet_on
      | (apply Exists.intro; (with_reducible refine ⟨fun _ => hl_call (HCu.out _), ?_⟩); go_big_quiet_on)
      | (apply Exists.intro; (with_reducible refine ⟨fun _ => hl_call (HCv.out _), ?_⟩); go_big_quiet_on)
      | (apply Exists.intro; (with_reducible refine ⟨fun _ => hl_call (HCx.out _), ?_⟩); go_big_quiet_on)
      ))
  refine wpQuiet_nil ?_
  intro W2 h2
  simp only [List.drop_succ_cons, List.drop_zero]

  have F2 := Lib.hid (Hl.row h2 F1.out)
  have G2 := Lib.hid (Hl.row h2 G1.out)
  have H2 := Lib.hid (Hl.row h2 H1.out)
  have B2 := Lib.hid (B1.out.trans (Below.mono h2 B1.out.size))
  clear h2 F1 G1 H1 B1
  refine wpList_store_row rfl 23 _ _ rfl w.heap.size (factC u cs) rfl rfl 23 _ F2.out (hiC _ _) rfl honeU ?_
  refine wpList_store_row rfl 23 _ _ rfl (w.heap.size + 1) (factC v ct) rfl rfl 23 _ ((setRow_other _ _ _ _ (by omega)).trans G2.out) (hiC _ _) rfl honeV ?_
  refine wpList_store_row rfl 23 _ _ rfl (w.heap.size + 2) (factC x cr) rfl rfl 23 _ ((setRow_other _ _ _ _ (by omega)).trans ((setRow_other _ _ _ _ (by omega)).trans H2.out)) (hiC _ _) rfl honeX ?_
  obtain ⟨W3, hW3, F3, G3, H3, B3⟩ : ∃ W3, ((W2.setRow w.heap.size (factC u cs)).setRow (w.heap.size + 1) (factC v ct)).setRow (w.heap.size + 2) (factC x cr) = W3 ∧ Hid (W3.heap[w.heap.size]? = some (.cells (factC u cs) 23 (0, 0))) ∧ Hid (W3.heap[w.heap.size + 1]? = some (.cells (factC v ct) 23 (0, 0))) ∧ Hid (W3.heap[w.heap.size + 2]? = some (.cells (factC x cr) 23 (0, 0))) ∧ Hid (Below w.heap.size w W3) :=
    ⟨_, rfl, Lib.hid ((setRow_other _ _ _ _ (by omega)).trans ((setRow_other _ _ _ _ (by omega)).trans (setRow_heap _ _ _ _ _ _ F2.out))), Lib.hid ((setRow_other _ _ _ _ (by omega)).trans (setRow_heap _ _ _ _ _ _ ((setRow_other _ _ _ _ (by omega)).trans G2.out))), Lib.hid (setRow_heap _ _ _ _ _ _ ((setRow_other _ _ _ _ (by omega)).trans ((setRow_other _ _ _ _ (by omega)).trans H2.out))), Lib.hid (below_setRow' (below_setRow' (below_setRow' B2.out _ _ (Nat.le_refl _)) _ _ (by omega)) _ _ (by omega))⟩
  rw [hW3]
  clear hW3 F2 G2 H2 B2
  go_wp2_with (first
      | (refine wpList_load_fact rfl _ rfl w.heap.size rfl u cs F3.out ?_)
      | (refine wpList_load_fact rfl _ rfl (w.heap.size + 1) rfl v ct G3.out ?_)
      | (refine wpList_load_fact rfl _ rfl (w.heap.size + 2) rfl x cr H3.out ?_))
  refine (Pab.out _).mono ?_
  rintro e W4 ⟨rfl, b4⟩
  have F4 := Lib.hid (Hl.row b4 F3.out)
  have G4 := Lib.hid (Hl.row b4 G3.out)
  have H4 := Lib.hid (Hl.row b4 H3.out)
  have B4 := Lib.hid (B3.out.trans (Below.mono b4 B3.out.size))
  clear F3 G3 H3 B3
  clear b4
  go_wp2_with (first
      | (refine wpList_load_fact rfl _ rfl w.heap.size rfl u cs F4.out ?_)
      | (refine wpList_load_fact rfl _ rfl (w.heap.size + 1) rfl v ct G4.out ?_)
      | (refine wpList_load_fact rfl _ rfl (w.heap.size + 2) rfl x cr H4.out ?_))
  refine (Pba.out _).mono ?_
  rintro e W5 ⟨rfl, b5⟩
  have F5 := Lib.hid (Hl.row b5 F4.out)
  have G5 := Lib.hid (Hl.row b5 G4.out)
  have H5 := Lib.hid (Hl.row b5 H4.out)
  have B5 := Lib.hid (B4.out.trans (Below.mono b5 B4.out.size))
  clear F4 G4 H4 B4
  clear b5
  go_wp2_with (first
      | (refine wpList_load_fact rfl _ rfl w.heap.size rfl u cs F5.out ?_)
      | (refine wpList_load_fact rfl _ rfl (w.heap.size + 1) rfl v ct G5.out ?_)
      | (refine wpList_load_fact rfl _ rfl (w.heap.size + 2) rfl x cr H5.out ?_))
  refine wp_region_hl W5 (Hl.refl _) (by kernel_rfl) (by kernel_rfl) ?_
  repeat (first
    | go_big_quiet_skip
    | (go_big_quiet_want; refine quiet_load_row _ rfl _ rfl _ _ F5.out ?_; simp only [Act.put, List.setIfInBounds_toArray, List.set_cons_zero, List.set_cons_succ]; go_big_quiet_on)
    | (go_big_quiet_want; refine quiet_load_row _ rfl _ rfl _ _ G5.out ?_; simp only [Act.put, List.setIfInBounds_toArray, List.set_cons_zero, List.set_cons_succ]; go_big_quiet_on)
    | (go_big_quiet_want; refine quiet_load_row _ rfl _ rfl _ _ H5.out ?_; simp only [Act.put, List.setIfInBounds_toArray, List.set_cons_zero, List.set_cons_succ]; go_big_quiet_on)
    | (go_big_quiet_want; go_big_quiet_op; first
      | go_big_quiet_on
      | (apply Exists.intro; (with_reducible refine ⟨fun _ => hl_call (HVa.out _), ?_⟩); go_big_quiet_on)
      | (apply Exists.intro; (with_reducible refine ⟨fun _ => hl_call (HVb.out _), ?_⟩); go_big_quiet_on)
      | (apply Exists.intro; (with_reducible refine ⟨fun _ => hl_call (KA.out _), ?_⟩); go_big_quiet_on)
      | (apply Exists.intro; (with_reducible refine ⟨fun _ => hl_call (KB.out _), ?_⟩); go_big_quiet_on)
      ))
  refine wpQuiet_nil ?_
  intro W6 h6
  have F6 := Lib.hid (Hl.row h6 F5.out)
  have G6 := Lib.hid (Hl.row h6 G5.out)
  have H6 := Lib.hid (Hl.row h6 H5.out)
  have B6 := Lib.hid (B5.out.trans (Below.mono h6 B5.out.size))
  clear F5 G5 H5 B5
  clear h6
  obtain ⟨-, -, da, -⟩ := row18x F6.out
  obtain ⟨-, -, db, -⟩ := row18x G6.out
  obtain ⟨-, -, ca, -⟩ := row18 F6.out
  obtain ⟨-, -, cb, -⟩ := row18 G6.out
  go_wp2_with (first
      | (refine wpList_load_fact rfl _ rfl w.heap.size rfl u cs F6.out ?_)
      | (refine wpList_load_fact rfl _ rfl (w.heap.size + 1) rfl v ct G6.out ?_)
      | (refine wpList_load_fact rfl _ rfl (w.heap.size + 2) rfl x cr H6.out ?_))
  refine (Paa.out _).mono ?_
  rintro e W7 ⟨rfl, b7⟩
  have F7 := Lib.hid (Hl.row b7 F6.out)
  have G7 := Lib.hid (Hl.row b7 G6.out)
  have H7 := Lib.hid (Hl.row b7 H6.out)
  have B7 := Lib.hid (B6.out.trans (Below.mono b7 B6.out.size))
  clear F6 G6 H6 B6
  clear b7
  go_wp2_with (first
      | (refine wpList_load_fact rfl _ rfl w.heap.size rfl u cs F7.out ?_)
      | (refine wpList_load_fact rfl _ rfl (w.heap.size + 1) rfl v ct G7.out ?_)
      | (refine wpList_load_fact rfl _ rfl (w.heap.size + 2) rfl x cr H7.out ?_))
  refine (Pbc.out _).mono ?_
  rintro e W8 ⟨rfl, b8⟩
  have F8 := Lib.hid (Hl.row b8 F7.out)
  have G8 := Lib.hid (Hl.row b8 G7.out)
  have H8 := Lib.hid (Hl.row b8 H7.out)
  have B8 := Lib.hid (B7.out.trans (Below.mono b8 B7.out.size))
  clear F7 G7 H7 B7
  clear b8
  go_wp2_with (first
      | (refine wpList_load_fact rfl _ rfl w.heap.size rfl u cs F8.out ?_)
      | (refine wpList_load_fact rfl _ rfl (w.heap.size + 1) rfl v ct G8.out ?_)
      | (refine wpList_load_fact rfl _ rfl (w.heap.size + 2) rfl x cr H8.out ?_))
  refine (Pac.out _).mono ?_
  rintro e W9 ⟨rfl, b9⟩
  have F9 := Lib.hid (Hl.row b9 F8.out)
  have G9 := Lib.hid (Hl.row b9 G8.out)
  have H9 := Lib.hid (Hl.row b9 H8.out)
  have B9 := Lib.hid (B8.out.trans (Below.mono b9 B8.out.size))
  clear F8 G8 H8 B8
  clear b9
  go_wp2_with (first
      | (refine wpList_load_fact rfl _ rfl w.heap.size rfl u cs F9.out ?_)
      | (refine wpList_load_fact rfl _ rfl (w.heap.size + 1) rfl v ct G9.out ?_)
      | (refine wpList_load_fact rfl _ rfl (w.heap.size + 2) rfl x cr H9.out ?_))
  go_ret
  exact ⟨rfl, B9.out⟩

set_option maxRecDepth 100000 in
set_option maxHeartbeats 4000000 in
theorem ordC (u v x : Nat → Int) (s t r : ByteArray) (w : World) (a : Addr) (hK : Konst w) (hE : ErrK a w) (hs : s.size ≤ 9223372036854775807) (ht : t.size ≤ 9223372036854775807) (hr : r.size ≤ 9223372036854775807) (hab : pvB u (cutT s) v (cutT t) = false) (hba : pvB v (cutT t) u (cutT s) = true) (hoa : okT u (cutT s) = true) (hob : okT v (cutT t) = true) (hky : kyB u v = true) (heq : eqB u v (cutT s) (cutT t) = false) :
    Calls Tryd.prog 9 #[.agg (factC u s), .agg (factC v t), .agg (factC x r)] w fun e W' => e = .returned (.bool true) ∧ Below w.heap.size w W' := by
  have hgE : 0 < w.heap.size := World.block_lt_of_cell? w _ hE
  have HK := Lib.hid hK
  have HE := Lib.hid hE
  clear hK hE
  have HS := Lib.hid (fun W (h : Konst W) (h' : ErrK a W) => sane_calls a W h h')
  have Pab := Lib.hid (fun W => Prevails_eq u v (cutT s) (cutT t) false hab W)
  have Pba := Lib.hid (fun W => Prevails_eq v u (cutT t) (cutT s) true hba W)
  have Paa := Lib.hid (fun W => Prevails_eq u u (cutT s) (cutT s) false (pv_irr u (cutT s)) W)
  have HVa := Lib.hid (fun W => Valid_eq u (cutT s) true hoa W)
  have HVb := Lib.hid (fun W => Valid_eq v (cutT t) true hob W)
  have KA := Lib.hid (fun W => Key_calls u (cutT s) W)
  have KB := Lib.hid (fun W => Key_calls v (cutT t) W)
  have hq := fun W => key_eql u v true hky W
  have hn := fun W => runNe u v (cutT s) (cutT t) W
  rw [heq] at hn
  clear hab hba hoa hob hky heq
  have HCu := Lib.hid (fun W => cut_calls u s W hs)
  have HCv := Lib.hid (fun W => cut_calls v t W ht)
  have HCx := Lib.hid (fun W => cut_calls x r W hr)
  have honeU := factC_one u (cutT s)
  have honeV := factC_one v (cutT t)
  have honeX := factC_one x (cutT r)
  generalize cutT s = cs at *
  generalize cutT t = ct at *
  generalize cutT r = cr at *
  go_enter Tryd.func9, Tryd.ntmps9
  go_upto_region 1 with (fail)
  obtain ⟨W0, hW0, f0, f1, f2, b0⟩ := three_rows w (factC u s) (factC v t) (factC x r) 23 23 23
  rw [hW0]
  clear hW0
  have F0 := Lib.hid f0
  have G0 := Lib.hid f1
  have H0 := Lib.hid f2
  have B0 := Lib.hid b0
  clear f0 f1 f2 b0
  go_wp2_with fail
  refine (HS.out _ (HK.out.keep B0.out) (HE.out.keep B0.out hgE)).mono ?_
  rintro e W1 ⟨rfl, b1⟩
  have F1 := Lib.hid (Hl.row b1 F0.out)
  have G1 := Lib.hid (Hl.row b1 G0.out)
  have H1 := Lib.hid (Hl.row b1 H0.out)
  have B1 := Lib.hid (B0.out.trans (Below.mono b1 B0.out.size))
  clear F0 G0 H0 B0
  clear b1
  go_wp2_with fail
  refine wp_region_hl_tail 6 W1 (Hl.refl _) (by kernel_rfl) (by kernel_rfl) ?_
  simp only [List.take_succ_cons, List.take_zero]
  repeat (first
    | go_big_quiet_skip
    | (go_big_quiet_want; refine quiet_load_row _ rfl _ rfl _ _ F1.out ?_; simp only [Act.put, List.setIfInBounds_toArray, List.set_cons_zero, List.set_cons_succ]; go_big_quiet_on)
    | (go_big_quiet_want; refine quiet_load_row _ rfl _ rfl _ _ G1.out ?_; simp only [Act.put, List.setIfInBounds_toArray, List.set_cons_zero, List.set_cons_succ]; go_big_quiet_on)
    | (go_big_quiet_want; refine quiet_load_row _ rfl _ rfl _ _ H1.out ?_; simp only [Act.put, List.setIfInBounds_toArray, List.set_cons_zero, List.set_cons_succ]; go_big_quiet_on)
    | (go_big_quiet_want; go_big_quiet_op; first
      | go_big_quiet_on
      | (apply Exists.intro; (with_reducible refine ⟨fun _ => hl_call (HCu.out _), ?_⟩); go_big_quiet_on)
      | (apply Exists.intro; (with_reducible refine ⟨fun _ => hl_call (HCv.out _), ?_⟩); go_big_quiet_on)
      | (apply Exists.intro; (with_reducible refine ⟨fun _ => hl_call (HCx.out _), ?_⟩); go_big_quiet_on)
      ))
  refine wpQuiet_nil ?_
  intro W2 h2
  simp only [List.drop_succ_cons, List.drop_zero]

  have F2 := Lib.hid (Hl.row h2 F1.out)
  have G2 := Lib.hid (Hl.row h2 G1.out)
  have H2 := Lib.hid (Hl.row h2 H1.out)
  have B2 := Lib.hid (B1.out.trans (Below.mono h2 B1.out.size))
  clear h2 F1 G1 H1 B1
  refine wpList_store_row rfl 23 _ _ rfl w.heap.size (factC u cs) rfl rfl 23 _ F2.out (hiC _ _) rfl honeU ?_
  refine wpList_store_row rfl 23 _ _ rfl (w.heap.size + 1) (factC v ct) rfl rfl 23 _ ((setRow_other _ _ _ _ (by omega)).trans G2.out) (hiC _ _) rfl honeV ?_
  refine wpList_store_row rfl 23 _ _ rfl (w.heap.size + 2) (factC x cr) rfl rfl 23 _ ((setRow_other _ _ _ _ (by omega)).trans ((setRow_other _ _ _ _ (by omega)).trans H2.out)) (hiC _ _) rfl honeX ?_
  obtain ⟨W3, hW3, F3, G3, H3, B3⟩ : ∃ W3, ((W2.setRow w.heap.size (factC u cs)).setRow (w.heap.size + 1) (factC v ct)).setRow (w.heap.size + 2) (factC x cr) = W3 ∧ Hid (W3.heap[w.heap.size]? = some (.cells (factC u cs) 23 (0, 0))) ∧ Hid (W3.heap[w.heap.size + 1]? = some (.cells (factC v ct) 23 (0, 0))) ∧ Hid (W3.heap[w.heap.size + 2]? = some (.cells (factC x cr) 23 (0, 0))) ∧ Hid (Below w.heap.size w W3) :=
    ⟨_, rfl, Lib.hid ((setRow_other _ _ _ _ (by omega)).trans ((setRow_other _ _ _ _ (by omega)).trans (setRow_heap _ _ _ _ _ _ F2.out))), Lib.hid ((setRow_other _ _ _ _ (by omega)).trans (setRow_heap _ _ _ _ _ _ ((setRow_other _ _ _ _ (by omega)).trans G2.out))), Lib.hid (setRow_heap _ _ _ _ _ _ ((setRow_other _ _ _ _ (by omega)).trans ((setRow_other _ _ _ _ (by omega)).trans H2.out))), Lib.hid (below_setRow' (below_setRow' (below_setRow' B2.out _ _ (Nat.le_refl _)) _ _ (by omega)) _ _ (by omega))⟩
  rw [hW3]
  clear hW3 F2 G2 H2 B2
  go_wp2_with (first
      | (refine wpList_load_fact rfl _ rfl w.heap.size rfl u cs F3.out ?_)
      | (refine wpList_load_fact rfl _ rfl (w.heap.size + 1) rfl v ct G3.out ?_)
      | (refine wpList_load_fact rfl _ rfl (w.heap.size + 2) rfl x cr H3.out ?_))
  refine (Pab.out _).mono ?_
  rintro e W4 ⟨rfl, b4⟩
  have F4 := Lib.hid (Hl.row b4 F3.out)
  have G4 := Lib.hid (Hl.row b4 G3.out)
  have H4 := Lib.hid (Hl.row b4 H3.out)
  have B4 := Lib.hid (B3.out.trans (Below.mono b4 B3.out.size))
  clear F3 G3 H3 B3
  clear b4
  go_wp2_with (first
      | (refine wpList_load_fact rfl _ rfl w.heap.size rfl u cs F4.out ?_)
      | (refine wpList_load_fact rfl _ rfl (w.heap.size + 1) rfl v ct G4.out ?_)
      | (refine wpList_load_fact rfl _ rfl (w.heap.size + 2) rfl x cr H4.out ?_))
  refine (Pba.out _).mono ?_
  rintro e W5 ⟨rfl, b5⟩
  have F5 := Lib.hid (Hl.row b5 F4.out)
  have G5 := Lib.hid (Hl.row b5 G4.out)
  have H5 := Lib.hid (Hl.row b5 H4.out)
  have B5 := Lib.hid (B4.out.trans (Below.mono b5 B4.out.size))
  clear F4 G4 H4 B4
  clear b5
  go_wp2_with (first
      | (refine wpList_load_fact rfl _ rfl w.heap.size rfl u cs F5.out ?_)
      | (refine wpList_load_fact rfl _ rfl (w.heap.size + 1) rfl v ct G5.out ?_)
      | (refine wpList_load_fact rfl _ rfl (w.heap.size + 2) rfl x cr H5.out ?_))
  refine wp_region_hl W5 (Hl.refl _) (by kernel_rfl) (by kernel_rfl) ?_
  repeat (first
    | go_big_quiet_skip
    | (go_big_quiet_want; refine quiet_load_row _ rfl _ rfl _ _ F5.out ?_; simp only [Act.put, List.setIfInBounds_toArray, List.set_cons_zero, List.set_cons_succ]; go_big_quiet_on)
    | (go_big_quiet_want; refine quiet_load_row _ rfl _ rfl _ _ G5.out ?_; simp only [Act.put, List.setIfInBounds_toArray, List.set_cons_zero, List.set_cons_succ]; go_big_quiet_on)
    | (go_big_quiet_want; refine quiet_load_row _ rfl _ rfl _ _ H5.out ?_; simp only [Act.put, List.setIfInBounds_toArray, List.set_cons_zero, List.set_cons_succ]; go_big_quiet_on)
    | (go_big_quiet_want; go_big_quiet_op; first
      | go_big_quiet_on
      | (apply Exists.intro; (with_reducible refine ⟨fun _ => hl_call (HVa.out _), ?_⟩); go_big_quiet_on)
      | (apply Exists.intro; (with_reducible refine ⟨fun _ => hl_call (HVb.out _), ?_⟩); go_big_quiet_on)
      | (apply Exists.intro; (with_reducible refine ⟨fun _ => hl_call (KA.out _), ?_⟩); go_big_quiet_on)
      | (apply Exists.intro; (with_reducible refine ⟨fun _ => hl_call (KB.out _), ?_⟩); go_big_quiet_on)
      ))
  refine wpQuiet_nil ?_
  intro W6 h6
  have F6 := Lib.hid (Hl.row h6 F5.out)
  have G6 := Lib.hid (Hl.row h6 G5.out)
  have H6 := Lib.hid (Hl.row h6 H5.out)
  have B6 := Lib.hid (B5.out.trans (Below.mono h6 B5.out.size))
  clear F5 G5 H5 B5
  clear h6
  go_wp2_with (first
      | (refine wpList_load_fact rfl _ rfl w.heap.size rfl u cs F6.out ?_)
      | (refine wpList_load_fact rfl _ rfl (w.heap.size + 1) rfl v ct G6.out ?_)
      | (refine wpList_load_fact rfl _ rfl (w.heap.size + 2) rfl x cr H6.out ?_))
  refine (Paa.out _).mono ?_
  rintro e W7 ⟨rfl, b7⟩
  have F7 := Lib.hid (Hl.row b7 F6.out)
  have G7 := Lib.hid (Hl.row b7 G6.out)
  have H7 := Lib.hid (Hl.row b7 H6.out)
  have B7 := Lib.hid (B6.out.trans (Below.mono b7 B6.out.size))
  clear F6 G6 H6 B6
  clear b7
  go_wp2_with (first
      | (refine wpList_load_fact rfl _ rfl w.heap.size rfl u cs F7.out ?_)
      | (refine wpList_load_fact rfl _ rfl (w.heap.size + 1) rfl v ct G7.out ?_)
      | (refine wpList_load_fact rfl _ rfl (w.heap.size + 2) rfl x cr H7.out ?_))
  go_ret
  exact ⟨rfl, B7.out⟩

set_option maxRecDepth 100000 in
set_option maxHeartbeats 4000000 in
theorem ordD (u v x : Nat → Int) (s t r : ByteArray) (w : World) (a : Addr) (hK : Konst w) (hE : ErrK a w) (hs : s.size ≤ 9223372036854775807) (ht : t.size ≤ 9223372036854775807) (hr : r.size ≤ 9223372036854775807) (hab : pvB u (cutT s) v (cutT t) = false) (hba : pvB v (cutT t) u (cutT s) = false) (hoa : okT u (cutT s) = false) :
    Calls Tryd.prog 9 #[.agg (factC u s), .agg (factC v t), .agg (factC x r)] w fun e W' => e = .returned (.bool true) ∧ Below w.heap.size w W' := by
  have hgE : 0 < w.heap.size := World.block_lt_of_cell? w _ hE
  have HK := Lib.hid hK
  have HE := Lib.hid hE
  clear hK hE
  have HS := Lib.hid (fun W (h : Konst W) (h' : ErrK a W) => sane_calls a W h h')
  have Pab := Lib.hid (fun W => Prevails_eq u v (cutT s) (cutT t) false hab W)
  have Pba := Lib.hid (fun W => Prevails_eq v u (cutT t) (cutT s) false hba W)
  have Paa := Lib.hid (fun W => Prevails_eq u u (cutT s) (cutT s) false (pv_irr u (cutT s)) W)
  have HVa := Lib.hid (fun W => Valid_eq u (cutT s) false hoa W)
  clear hab hba hoa
  have HCu := Lib.hid (fun W => cut_calls u s W hs)
  have HCv := Lib.hid (fun W => cut_calls v t W ht)
  have HCx := Lib.hid (fun W => cut_calls x r W hr)
  have honeU := factC_one u (cutT s)
  have honeV := factC_one v (cutT t)
  have honeX := factC_one x (cutT r)
  generalize cutT s = cs at *
  generalize cutT t = ct at *
  generalize cutT r = cr at *
  go_enter Tryd.func9, Tryd.ntmps9
  go_upto_region 1 with (fail)
  obtain ⟨W0, hW0, f0, f1, f2, b0⟩ := three_rows w (factC u s) (factC v t) (factC x r) 23 23 23
  rw [hW0]
  clear hW0
  have F0 := Lib.hid f0
  have G0 := Lib.hid f1
  have H0 := Lib.hid f2
  have B0 := Lib.hid b0
  clear f0 f1 f2 b0
  go_wp2_with fail
  refine (HS.out _ (HK.out.keep B0.out) (HE.out.keep B0.out hgE)).mono ?_
  rintro e W1 ⟨rfl, b1⟩
  have F1 := Lib.hid (Hl.row b1 F0.out)
  have G1 := Lib.hid (Hl.row b1 G0.out)
  have H1 := Lib.hid (Hl.row b1 H0.out)
  have B1 := Lib.hid (B0.out.trans (Below.mono b1 B0.out.size))
  clear F0 G0 H0 B0
  clear b1
  go_wp2_with fail
  refine wp_region_hl_tail 6 W1 (Hl.refl _) (by kernel_rfl) (by kernel_rfl) ?_
  simp only [List.take_succ_cons, List.take_zero]
  repeat (first
    | go_big_quiet_skip
    | (go_big_quiet_want; refine quiet_load_row _ rfl _ rfl _ _ F1.out ?_; simp only [Act.put, List.setIfInBounds_toArray, List.set_cons_zero, List.set_cons_succ]; go_big_quiet_on)
    | (go_big_quiet_want; refine quiet_load_row _ rfl _ rfl _ _ G1.out ?_; simp only [Act.put, List.setIfInBounds_toArray, List.set_cons_zero, List.set_cons_succ]; go_big_quiet_on)
    | (go_big_quiet_want; refine quiet_load_row _ rfl _ rfl _ _ H1.out ?_; simp only [Act.put, List.setIfInBounds_toArray, List.set_cons_zero, List.set_cons_succ]; go_big_quiet_on)
    | (go_big_quiet_want; go_big_quiet_op; first
      | go_big_quiet_on
      | (apply Exists.intro; (with_reducible refine ⟨fun _ => hl_call (HCu.out _), ?_⟩); go_big_quiet_on)
      | (apply Exists.intro; (with_reducible refine ⟨fun _ => hl_call (HCv.out _), ?_⟩); go_big_quiet_on)
      | (apply Exists.intro; (with_reducible refine ⟨fun _ => hl_call (HCx.out _), ?_⟩); go_big_quiet_on)
      ))
  refine wpQuiet_nil ?_
  intro W2 h2
  simp only [List.drop_succ_cons, List.drop_zero]

  have F2 := Lib.hid (Hl.row h2 F1.out)
  have G2 := Lib.hid (Hl.row h2 G1.out)
  have H2 := Lib.hid (Hl.row h2 H1.out)
  have B2 := Lib.hid (B1.out.trans (Below.mono h2 B1.out.size))
  clear h2 F1 G1 H1 B1
  refine wpList_store_row rfl 23 _ _ rfl w.heap.size (factC u cs) rfl rfl 23 _ F2.out (hiC _ _) rfl honeU ?_
  refine wpList_store_row rfl 23 _ _ rfl (w.heap.size + 1) (factC v ct) rfl rfl 23 _ ((setRow_other _ _ _ _ (by omega)).trans G2.out) (hiC _ _) rfl honeV ?_
  refine wpList_store_row rfl 23 _ _ rfl (w.heap.size + 2) (factC x cr) rfl rfl 23 _ ((setRow_other _ _ _ _ (by omega)).trans ((setRow_other _ _ _ _ (by omega)).trans H2.out)) (hiC _ _) rfl honeX ?_
  obtain ⟨W3, hW3, F3, G3, H3, B3⟩ : ∃ W3, ((W2.setRow w.heap.size (factC u cs)).setRow (w.heap.size + 1) (factC v ct)).setRow (w.heap.size + 2) (factC x cr) = W3 ∧ Hid (W3.heap[w.heap.size]? = some (.cells (factC u cs) 23 (0, 0))) ∧ Hid (W3.heap[w.heap.size + 1]? = some (.cells (factC v ct) 23 (0, 0))) ∧ Hid (W3.heap[w.heap.size + 2]? = some (.cells (factC x cr) 23 (0, 0))) ∧ Hid (Below w.heap.size w W3) :=
    ⟨_, rfl, Lib.hid ((setRow_other _ _ _ _ (by omega)).trans ((setRow_other _ _ _ _ (by omega)).trans (setRow_heap _ _ _ _ _ _ F2.out))), Lib.hid ((setRow_other _ _ _ _ (by omega)).trans (setRow_heap _ _ _ _ _ _ ((setRow_other _ _ _ _ (by omega)).trans G2.out))), Lib.hid (setRow_heap _ _ _ _ _ _ ((setRow_other _ _ _ _ (by omega)).trans ((setRow_other _ _ _ _ (by omega)).trans H2.out))), Lib.hid (below_setRow' (below_setRow' (below_setRow' B2.out _ _ (Nat.le_refl _)) _ _ (by omega)) _ _ (by omega))⟩
  rw [hW3]
  clear hW3 F2 G2 H2 B2
  go_wp2_with (first
      | (refine wpList_load_fact rfl _ rfl w.heap.size rfl u cs F3.out ?_)
      | (refine wpList_load_fact rfl _ rfl (w.heap.size + 1) rfl v ct G3.out ?_)
      | (refine wpList_load_fact rfl _ rfl (w.heap.size + 2) rfl x cr H3.out ?_))
  refine (Pab.out _).mono ?_
  rintro e W4 ⟨rfl, b4⟩
  have F4 := Lib.hid (Hl.row b4 F3.out)
  have G4 := Lib.hid (Hl.row b4 G3.out)
  have H4 := Lib.hid (Hl.row b4 H3.out)
  have B4 := Lib.hid (B3.out.trans (Below.mono b4 B3.out.size))
  clear F3 G3 H3 B3
  clear b4
  go_wp2_with (first
      | (refine wpList_load_fact rfl _ rfl w.heap.size rfl u cs F4.out ?_)
      | (refine wpList_load_fact rfl _ rfl (w.heap.size + 1) rfl v ct G4.out ?_)
      | (refine wpList_load_fact rfl _ rfl (w.heap.size + 2) rfl x cr H4.out ?_))
  refine (Pba.out _).mono ?_
  rintro e W5 ⟨rfl, b5⟩
  have F5 := Lib.hid (Hl.row b5 F4.out)
  have G5 := Lib.hid (Hl.row b5 G4.out)
  have H5 := Lib.hid (Hl.row b5 H4.out)
  have B5 := Lib.hid (B4.out.trans (Below.mono b5 B4.out.size))
  clear F4 G4 H4 B4
  clear b5
  go_wp2_with (first
      | (refine wpList_load_fact rfl _ rfl w.heap.size rfl u cs F5.out ?_)
      | (refine wpList_load_fact rfl _ rfl (w.heap.size + 1) rfl v ct G5.out ?_)
      | (refine wpList_load_fact rfl _ rfl (w.heap.size + 2) rfl x cr H5.out ?_))
  refine wp_region_hl W5 (Hl.refl _) (by kernel_rfl) (by kernel_rfl) ?_
  repeat (first
    | go_big_quiet_skip
    | (go_big_quiet_want; refine quiet_load_row _ rfl _ rfl _ _ F5.out ?_; simp only [Act.put, List.setIfInBounds_toArray, List.set_cons_zero, List.set_cons_succ]; go_big_quiet_on)
    | (go_big_quiet_want; refine quiet_load_row _ rfl _ rfl _ _ G5.out ?_; simp only [Act.put, List.setIfInBounds_toArray, List.set_cons_zero, List.set_cons_succ]; go_big_quiet_on)
    | (go_big_quiet_want; refine quiet_load_row _ rfl _ rfl _ _ H5.out ?_; simp only [Act.put, List.setIfInBounds_toArray, List.set_cons_zero, List.set_cons_succ]; go_big_quiet_on)
    | (go_big_quiet_want; go_big_quiet_op; first
      | go_big_quiet_on
      | (apply Exists.intro; (with_reducible refine ⟨fun _ => hl_call (HVa.out _), ?_⟩); go_big_quiet_on)
      ))
  refine wpQuiet_nil ?_
  intro W6 h6
  have F6 := Lib.hid (Hl.row h6 F5.out)
  have G6 := Lib.hid (Hl.row h6 G5.out)
  have H6 := Lib.hid (Hl.row h6 H5.out)
  have B6 := Lib.hid (B5.out.trans (Below.mono h6 B5.out.size))
  clear F5 G5 H5 B5
  clear h6
  go_wp2_with (first
      | (refine wpList_load_fact rfl _ rfl w.heap.size rfl u cs F6.out ?_)
      | (refine wpList_load_fact rfl _ rfl (w.heap.size + 1) rfl v ct G6.out ?_)
      | (refine wpList_load_fact rfl _ rfl (w.heap.size + 2) rfl x cr H6.out ?_))
  refine (Paa.out _).mono ?_
  rintro e W7 ⟨rfl, b7⟩
  have F7 := Lib.hid (Hl.row b7 F6.out)
  have G7 := Lib.hid (Hl.row b7 G6.out)
  have H7 := Lib.hid (Hl.row b7 H6.out)
  have B7 := Lib.hid (B6.out.trans (Below.mono b7 B6.out.size))
  clear F6 G6 H6 B6
  clear b7
  go_wp2_with (first
      | (refine wpList_load_fact rfl _ rfl w.heap.size rfl u cs F7.out ?_)
      | (refine wpList_load_fact rfl _ rfl (w.heap.size + 1) rfl v ct G7.out ?_)
      | (refine wpList_load_fact rfl _ rfl (w.heap.size + 2) rfl x cr H7.out ?_))
  go_ret
  exact ⟨rfl, B7.out⟩

set_option maxRecDepth 100000 in
set_option maxHeartbeats 4000000 in
theorem ordE (u v x : Nat → Int) (s t r : ByteArray) (w : World) (a : Addr) (hK : Konst w) (hE : ErrK a w) (hs : s.size ≤ 9223372036854775807) (ht : t.size ≤ 9223372036854775807) (hr : r.size ≤ 9223372036854775807) (hab : pvB u (cutT s) v (cutT t) = false) (hba : pvB v (cutT t) u (cutT s) = false) (hoa : okT u (cutT s) = true) (hob : okT v (cutT t) = false) :
    Calls Tryd.prog 9 #[.agg (factC u s), .agg (factC v t), .agg (factC x r)] w fun e W' => e = .returned (.bool true) ∧ Below w.heap.size w W' := by
  have hgE : 0 < w.heap.size := World.block_lt_of_cell? w _ hE
  have HK := Lib.hid hK
  have HE := Lib.hid hE
  clear hK hE
  have HS := Lib.hid (fun W (h : Konst W) (h' : ErrK a W) => sane_calls a W h h')
  have Pab := Lib.hid (fun W => Prevails_eq u v (cutT s) (cutT t) false hab W)
  have Pba := Lib.hid (fun W => Prevails_eq v u (cutT t) (cutT s) false hba W)
  have Paa := Lib.hid (fun W => Prevails_eq u u (cutT s) (cutT s) false (pv_irr u (cutT s)) W)
  have HVa := Lib.hid (fun W => Valid_eq u (cutT s) true hoa W)
  have HVb := Lib.hid (fun W => Valid_eq v (cutT t) false hob W)
  clear hab hba hoa hob
  have HCu := Lib.hid (fun W => cut_calls u s W hs)
  have HCv := Lib.hid (fun W => cut_calls v t W ht)
  have HCx := Lib.hid (fun W => cut_calls x r W hr)
  have honeU := factC_one u (cutT s)
  have honeV := factC_one v (cutT t)
  have honeX := factC_one x (cutT r)
  generalize cutT s = cs at *
  generalize cutT t = ct at *
  generalize cutT r = cr at *
  go_enter Tryd.func9, Tryd.ntmps9
  go_upto_region 1 with (fail)
  obtain ⟨W0, hW0, f0, f1, f2, b0⟩ := three_rows w (factC u s) (factC v t) (factC x r) 23 23 23
  rw [hW0]
  clear hW0
  have F0 := Lib.hid f0
  have G0 := Lib.hid f1
  have H0 := Lib.hid f2
  have B0 := Lib.hid b0
  clear f0 f1 f2 b0
  go_wp2_with fail
  refine (HS.out _ (HK.out.keep B0.out) (HE.out.keep B0.out hgE)).mono ?_
  rintro e W1 ⟨rfl, b1⟩
  have F1 := Lib.hid (Hl.row b1 F0.out)
  have G1 := Lib.hid (Hl.row b1 G0.out)
  have H1 := Lib.hid (Hl.row b1 H0.out)
  have B1 := Lib.hid (B0.out.trans (Below.mono b1 B0.out.size))
  clear F0 G0 H0 B0
  clear b1
  go_wp2_with fail
  refine wp_region_hl_tail 6 W1 (Hl.refl _) (by kernel_rfl) (by kernel_rfl) ?_
  simp only [List.take_succ_cons, List.take_zero]
  repeat (first
    | go_big_quiet_skip
    | (go_big_quiet_want; refine quiet_load_row _ rfl _ rfl _ _ F1.out ?_; simp only [Act.put, List.setIfInBounds_toArray, List.set_cons_zero, List.set_cons_succ]; go_big_quiet_on)
    | (go_big_quiet_want; refine quiet_load_row _ rfl _ rfl _ _ G1.out ?_; simp only [Act.put, List.setIfInBounds_toArray, List.set_cons_zero, List.set_cons_succ]; go_big_quiet_on)
    | (go_big_quiet_want; refine quiet_load_row _ rfl _ rfl _ _ H1.out ?_; simp only [Act.put, List.setIfInBounds_toArray, List.set_cons_zero, List.set_cons_succ]; go_big_quiet_on)
    | (go_big_quiet_want; go_big_quiet_op; first
      | go_big_quiet_on
      | (apply Exists.intro; (with_reducible refine ⟨fun _ => hl_call (HCu.out _), ?_⟩); go_big_quiet_on)
      | (apply Exists.intro; (with_reducible refine ⟨fun _ => hl_call (HCv.out _), ?_⟩); go_big_quiet_on)
      | (apply Exists.intro; (with_reducible refine ⟨fun _ => hl_call (HCx.out _), ?_⟩); go_big_quiet_on)
      ))
  refine wpQuiet_nil ?_
  intro W2 h2
  simp only [List.drop_succ_cons, List.drop_zero]

  have F2 := Lib.hid (Hl.row h2 F1.out)
  have G2 := Lib.hid (Hl.row h2 G1.out)
  have H2 := Lib.hid (Hl.row h2 H1.out)
  have B2 := Lib.hid (B1.out.trans (Below.mono h2 B1.out.size))
  clear h2 F1 G1 H1 B1
  refine wpList_store_row rfl 23 _ _ rfl w.heap.size (factC u cs) rfl rfl 23 _ F2.out (hiC _ _) rfl honeU ?_
  refine wpList_store_row rfl 23 _ _ rfl (w.heap.size + 1) (factC v ct) rfl rfl 23 _ ((setRow_other _ _ _ _ (by omega)).trans G2.out) (hiC _ _) rfl honeV ?_
  refine wpList_store_row rfl 23 _ _ rfl (w.heap.size + 2) (factC x cr) rfl rfl 23 _ ((setRow_other _ _ _ _ (by omega)).trans ((setRow_other _ _ _ _ (by omega)).trans H2.out)) (hiC _ _) rfl honeX ?_
  obtain ⟨W3, hW3, F3, G3, H3, B3⟩ : ∃ W3, ((W2.setRow w.heap.size (factC u cs)).setRow (w.heap.size + 1) (factC v ct)).setRow (w.heap.size + 2) (factC x cr) = W3 ∧ Hid (W3.heap[w.heap.size]? = some (.cells (factC u cs) 23 (0, 0))) ∧ Hid (W3.heap[w.heap.size + 1]? = some (.cells (factC v ct) 23 (0, 0))) ∧ Hid (W3.heap[w.heap.size + 2]? = some (.cells (factC x cr) 23 (0, 0))) ∧ Hid (Below w.heap.size w W3) :=
    ⟨_, rfl, Lib.hid ((setRow_other _ _ _ _ (by omega)).trans ((setRow_other _ _ _ _ (by omega)).trans (setRow_heap _ _ _ _ _ _ F2.out))), Lib.hid ((setRow_other _ _ _ _ (by omega)).trans (setRow_heap _ _ _ _ _ _ ((setRow_other _ _ _ _ (by omega)).trans G2.out))), Lib.hid (setRow_heap _ _ _ _ _ _ ((setRow_other _ _ _ _ (by omega)).trans ((setRow_other _ _ _ _ (by omega)).trans H2.out))), Lib.hid (below_setRow' (below_setRow' (below_setRow' B2.out _ _ (Nat.le_refl _)) _ _ (by omega)) _ _ (by omega))⟩
  rw [hW3]
  clear hW3 F2 G2 H2 B2
  go_wp2_with (first
      | (refine wpList_load_fact rfl _ rfl w.heap.size rfl u cs F3.out ?_)
      | (refine wpList_load_fact rfl _ rfl (w.heap.size + 1) rfl v ct G3.out ?_)
      | (refine wpList_load_fact rfl _ rfl (w.heap.size + 2) rfl x cr H3.out ?_))
  refine (Pab.out _).mono ?_
  rintro e W4 ⟨rfl, b4⟩
  have F4 := Lib.hid (Hl.row b4 F3.out)
  have G4 := Lib.hid (Hl.row b4 G3.out)
  have H4 := Lib.hid (Hl.row b4 H3.out)
  have B4 := Lib.hid (B3.out.trans (Below.mono b4 B3.out.size))
  clear F3 G3 H3 B3
  clear b4
  go_wp2_with (first
      | (refine wpList_load_fact rfl _ rfl w.heap.size rfl u cs F4.out ?_)
      | (refine wpList_load_fact rfl _ rfl (w.heap.size + 1) rfl v ct G4.out ?_)
      | (refine wpList_load_fact rfl _ rfl (w.heap.size + 2) rfl x cr H4.out ?_))
  refine (Pba.out _).mono ?_
  rintro e W5 ⟨rfl, b5⟩
  have F5 := Lib.hid (Hl.row b5 F4.out)
  have G5 := Lib.hid (Hl.row b5 G4.out)
  have H5 := Lib.hid (Hl.row b5 H4.out)
  have B5 := Lib.hid (B4.out.trans (Below.mono b5 B4.out.size))
  clear F4 G4 H4 B4
  clear b5
  go_wp2_with (first
      | (refine wpList_load_fact rfl _ rfl w.heap.size rfl u cs F5.out ?_)
      | (refine wpList_load_fact rfl _ rfl (w.heap.size + 1) rfl v ct G5.out ?_)
      | (refine wpList_load_fact rfl _ rfl (w.heap.size + 2) rfl x cr H5.out ?_))
  refine wp_region_hl W5 (Hl.refl _) (by kernel_rfl) (by kernel_rfl) ?_
  repeat (first
    | go_big_quiet_skip
    | (go_big_quiet_want; refine quiet_load_row _ rfl _ rfl _ _ F5.out ?_; simp only [Act.put, List.setIfInBounds_toArray, List.set_cons_zero, List.set_cons_succ]; go_big_quiet_on)
    | (go_big_quiet_want; refine quiet_load_row _ rfl _ rfl _ _ G5.out ?_; simp only [Act.put, List.setIfInBounds_toArray, List.set_cons_zero, List.set_cons_succ]; go_big_quiet_on)
    | (go_big_quiet_want; refine quiet_load_row _ rfl _ rfl _ _ H5.out ?_; simp only [Act.put, List.setIfInBounds_toArray, List.set_cons_zero, List.set_cons_succ]; go_big_quiet_on)
    | (go_big_quiet_want; go_big_quiet_op; first
      | go_big_quiet_on
      | (apply Exists.intro; (with_reducible refine ⟨fun _ => hl_call (HVa.out _), ?_⟩); go_big_quiet_on)
      | (apply Exists.intro; (with_reducible refine ⟨fun _ => hl_call (HVb.out _), ?_⟩); go_big_quiet_on)
      ))
  refine wpQuiet_nil ?_
  intro W6 h6
  have F6 := Lib.hid (Hl.row h6 F5.out)
  have G6 := Lib.hid (Hl.row h6 G5.out)
  have H6 := Lib.hid (Hl.row h6 H5.out)
  have B6 := Lib.hid (B5.out.trans (Below.mono h6 B5.out.size))
  clear F5 G5 H5 B5
  clear h6
  go_wp2_with (first
      | (refine wpList_load_fact rfl _ rfl w.heap.size rfl u cs F6.out ?_)
      | (refine wpList_load_fact rfl _ rfl (w.heap.size + 1) rfl v ct G6.out ?_)
      | (refine wpList_load_fact rfl _ rfl (w.heap.size + 2) rfl x cr H6.out ?_))
  refine (Paa.out _).mono ?_
  rintro e W7 ⟨rfl, b7⟩
  have F7 := Lib.hid (Hl.row b7 F6.out)
  have G7 := Lib.hid (Hl.row b7 G6.out)
  have H7 := Lib.hid (Hl.row b7 H6.out)
  have B7 := Lib.hid (B6.out.trans (Below.mono b7 B6.out.size))
  clear F6 G6 H6 B6
  clear b7
  go_wp2_with (first
      | (refine wpList_load_fact rfl _ rfl w.heap.size rfl u cs F7.out ?_)
      | (refine wpList_load_fact rfl _ rfl (w.heap.size + 1) rfl v ct G7.out ?_)
      | (refine wpList_load_fact rfl _ rfl (w.heap.size + 2) rfl x cr H7.out ?_))
  go_ret
  exact ⟨rfl, B7.out⟩

set_option maxRecDepth 100000 in
set_option maxHeartbeats 4000000 in
theorem ordF (u v x : Nat → Int) (s t r : ByteArray) (w : World) (a : Addr) (hK : Konst w) (hE : ErrK a w) (hs : s.size ≤ 9223372036854775807) (ht : t.size ≤ 9223372036854775807) (hr : r.size ≤ 9223372036854775807) (hab : pvB u (cutT s) v (cutT t) = false) (hba : pvB v (cutT t) u (cutT s) = false) (hoa : okT u (cutT s) = true) (hob : okT v (cutT t) = true) (hky : kyB u v = false) :
    Calls Tryd.prog 9 #[.agg (factC u s), .agg (factC v t), .agg (factC x r)] w fun e W' => e = .returned (.bool true) ∧ Below w.heap.size w W' := by
  have hgE : 0 < w.heap.size := World.block_lt_of_cell? w _ hE
  have HK := Lib.hid hK
  have HE := Lib.hid hE
  clear hK hE
  have HS := Lib.hid (fun W (h : Konst W) (h' : ErrK a W) => sane_calls a W h h')
  have Pab := Lib.hid (fun W => Prevails_eq u v (cutT s) (cutT t) false hab W)
  have Pba := Lib.hid (fun W => Prevails_eq v u (cutT t) (cutT s) false hba W)
  have Paa := Lib.hid (fun W => Prevails_eq u u (cutT s) (cutT s) false (pv_irr u (cutT s)) W)
  have HVa := Lib.hid (fun W => Valid_eq u (cutT s) true hoa W)
  have HVb := Lib.hid (fun W => Valid_eq v (cutT t) true hob W)
  have KA := Lib.hid (fun W => Key_calls u (cutT s) W)
  have KB := Lib.hid (fun W => Key_calls v (cutT t) W)
  have hq := fun W => key_eql u v false hky W
  clear hab hba hoa hob hky
  have HCu := Lib.hid (fun W => cut_calls u s W hs)
  have HCv := Lib.hid (fun W => cut_calls v t W ht)
  have HCx := Lib.hid (fun W => cut_calls x r W hr)
  have honeU := factC_one u (cutT s)
  have honeV := factC_one v (cutT t)
  have honeX := factC_one x (cutT r)
  generalize cutT s = cs at *
  generalize cutT t = ct at *
  generalize cutT r = cr at *
  go_enter Tryd.func9, Tryd.ntmps9
  go_upto_region 1 with (fail)
  obtain ⟨W0, hW0, f0, f1, f2, b0⟩ := three_rows w (factC u s) (factC v t) (factC x r) 23 23 23
  rw [hW0]
  clear hW0
  have F0 := Lib.hid f0
  have G0 := Lib.hid f1
  have H0 := Lib.hid f2
  have B0 := Lib.hid b0
  clear f0 f1 f2 b0
  go_wp2_with fail
  refine (HS.out _ (HK.out.keep B0.out) (HE.out.keep B0.out hgE)).mono ?_
  rintro e W1 ⟨rfl, b1⟩
  have F1 := Lib.hid (Hl.row b1 F0.out)
  have G1 := Lib.hid (Hl.row b1 G0.out)
  have H1 := Lib.hid (Hl.row b1 H0.out)
  have B1 := Lib.hid (B0.out.trans (Below.mono b1 B0.out.size))
  clear F0 G0 H0 B0
  clear b1
  go_wp2_with fail
  refine wp_region_hl_tail 6 W1 (Hl.refl _) (by kernel_rfl) (by kernel_rfl) ?_
  simp only [List.take_succ_cons, List.take_zero]
  repeat (first
    | go_big_quiet_skip
    | (go_big_quiet_want; refine quiet_load_row _ rfl _ rfl _ _ F1.out ?_; simp only [Act.put, List.setIfInBounds_toArray, List.set_cons_zero, List.set_cons_succ]; go_big_quiet_on)
    | (go_big_quiet_want; refine quiet_load_row _ rfl _ rfl _ _ G1.out ?_; simp only [Act.put, List.setIfInBounds_toArray, List.set_cons_zero, List.set_cons_succ]; go_big_quiet_on)
    | (go_big_quiet_want; refine quiet_load_row _ rfl _ rfl _ _ H1.out ?_; simp only [Act.put, List.setIfInBounds_toArray, List.set_cons_zero, List.set_cons_succ]; go_big_quiet_on)
    | (go_big_quiet_want; go_big_quiet_op; first
      | go_big_quiet_on
      | (apply Exists.intro; (with_reducible refine ⟨fun _ => hl_call (HCu.out _), ?_⟩); go_big_quiet_on)
      | (apply Exists.intro; (with_reducible refine ⟨fun _ => hl_call (HCv.out _), ?_⟩); go_big_quiet_on)
      | (apply Exists.intro; (with_reducible refine ⟨fun _ => hl_call (HCx.out _), ?_⟩); go_big_quiet_on)
      ))
  refine wpQuiet_nil ?_
  intro W2 h2
  simp only [List.drop_succ_cons, List.drop_zero]

  have F2 := Lib.hid (Hl.row h2 F1.out)
  have G2 := Lib.hid (Hl.row h2 G1.out)
  have H2 := Lib.hid (Hl.row h2 H1.out)
  have B2 := Lib.hid (B1.out.trans (Below.mono h2 B1.out.size))
  clear h2 F1 G1 H1 B1
  refine wpList_store_row rfl 23 _ _ rfl w.heap.size (factC u cs) rfl rfl 23 _ F2.out (hiC _ _) rfl honeU ?_
  refine wpList_store_row rfl 23 _ _ rfl (w.heap.size + 1) (factC v ct) rfl rfl 23 _ ((setRow_other _ _ _ _ (by omega)).trans G2.out) (hiC _ _) rfl honeV ?_
  refine wpList_store_row rfl 23 _ _ rfl (w.heap.size + 2) (factC x cr) rfl rfl 23 _ ((setRow_other _ _ _ _ (by omega)).trans ((setRow_other _ _ _ _ (by omega)).trans H2.out)) (hiC _ _) rfl honeX ?_
  obtain ⟨W3, hW3, F3, G3, H3, B3⟩ : ∃ W3, ((W2.setRow w.heap.size (factC u cs)).setRow (w.heap.size + 1) (factC v ct)).setRow (w.heap.size + 2) (factC x cr) = W3 ∧ Hid (W3.heap[w.heap.size]? = some (.cells (factC u cs) 23 (0, 0))) ∧ Hid (W3.heap[w.heap.size + 1]? = some (.cells (factC v ct) 23 (0, 0))) ∧ Hid (W3.heap[w.heap.size + 2]? = some (.cells (factC x cr) 23 (0, 0))) ∧ Hid (Below w.heap.size w W3) :=
    ⟨_, rfl, Lib.hid ((setRow_other _ _ _ _ (by omega)).trans ((setRow_other _ _ _ _ (by omega)).trans (setRow_heap _ _ _ _ _ _ F2.out))), Lib.hid ((setRow_other _ _ _ _ (by omega)).trans (setRow_heap _ _ _ _ _ _ ((setRow_other _ _ _ _ (by omega)).trans G2.out))), Lib.hid (setRow_heap _ _ _ _ _ _ ((setRow_other _ _ _ _ (by omega)).trans ((setRow_other _ _ _ _ (by omega)).trans H2.out))), Lib.hid (below_setRow' (below_setRow' (below_setRow' B2.out _ _ (Nat.le_refl _)) _ _ (by omega)) _ _ (by omega))⟩
  rw [hW3]
  clear hW3 F2 G2 H2 B2
  go_wp2_with (first
      | (refine wpList_load_fact rfl _ rfl w.heap.size rfl u cs F3.out ?_)
      | (refine wpList_load_fact rfl _ rfl (w.heap.size + 1) rfl v ct G3.out ?_)
      | (refine wpList_load_fact rfl _ rfl (w.heap.size + 2) rfl x cr H3.out ?_))
  refine (Pab.out _).mono ?_
  rintro e W4 ⟨rfl, b4⟩
  have F4 := Lib.hid (Hl.row b4 F3.out)
  have G4 := Lib.hid (Hl.row b4 G3.out)
  have H4 := Lib.hid (Hl.row b4 H3.out)
  have B4 := Lib.hid (B3.out.trans (Below.mono b4 B3.out.size))
  clear F3 G3 H3 B3
  clear b4
  go_wp2_with (first
      | (refine wpList_load_fact rfl _ rfl w.heap.size rfl u cs F4.out ?_)
      | (refine wpList_load_fact rfl _ rfl (w.heap.size + 1) rfl v ct G4.out ?_)
      | (refine wpList_load_fact rfl _ rfl (w.heap.size + 2) rfl x cr H4.out ?_))
  refine (Pba.out _).mono ?_
  rintro e W5 ⟨rfl, b5⟩
  have F5 := Lib.hid (Hl.row b5 F4.out)
  have G5 := Lib.hid (Hl.row b5 G4.out)
  have H5 := Lib.hid (Hl.row b5 H4.out)
  have B5 := Lib.hid (B4.out.trans (Below.mono b5 B4.out.size))
  clear F4 G4 H4 B4
  clear b5
  go_wp2_with (first
      | (refine wpList_load_fact rfl _ rfl w.heap.size rfl u cs F5.out ?_)
      | (refine wpList_load_fact rfl _ rfl (w.heap.size + 1) rfl v ct G5.out ?_)
      | (refine wpList_load_fact rfl _ rfl (w.heap.size + 2) rfl x cr H5.out ?_))
  refine wp_region_hl W5 (Hl.refl _) (by kernel_rfl) (by kernel_rfl) ?_
  repeat (first
    | go_big_quiet_skip
    | (go_big_quiet_want; refine quiet_load_row _ rfl _ rfl _ _ F5.out ?_; simp only [Act.put, List.setIfInBounds_toArray, List.set_cons_zero, List.set_cons_succ]; go_big_quiet_on)
    | (go_big_quiet_want; refine quiet_load_row _ rfl _ rfl _ _ G5.out ?_; simp only [Act.put, List.setIfInBounds_toArray, List.set_cons_zero, List.set_cons_succ]; go_big_quiet_on)
    | (go_big_quiet_want; refine quiet_load_row _ rfl _ rfl _ _ H5.out ?_; simp only [Act.put, List.setIfInBounds_toArray, List.set_cons_zero, List.set_cons_succ]; go_big_quiet_on)
    | (go_big_quiet_want; go_big_quiet_op; first
      | go_big_quiet_on
      | (apply Exists.intro; (with_reducible refine ⟨fun _ => hl_call (HVa.out _), ?_⟩); go_big_quiet_on)
      | (apply Exists.intro; (with_reducible refine ⟨fun _ => hl_call (HVb.out _), ?_⟩); go_big_quiet_on)
      | (apply Exists.intro; (with_reducible refine ⟨fun _ => hl_call (KA.out _), ?_⟩); go_big_quiet_on)
      | (apply Exists.intro; (with_reducible refine ⟨fun _ => hl_call (KB.out _), ?_⟩); go_big_quiet_on)
      ))
  refine wpQuiet_nil ?_
  intro W6 h6
  have F6 := Lib.hid (Hl.row h6 F5.out)
  have G6 := Lib.hid (Hl.row h6 G5.out)
  have H6 := Lib.hid (Hl.row h6 H5.out)
  have B6 := Lib.hid (B5.out.trans (Below.mono h6 B5.out.size))
  clear F5 G5 H5 B5
  clear h6
  go_wp2_with (first
      | (refine wpList_load_fact rfl _ rfl w.heap.size rfl u cs F6.out ?_)
      | (refine wpList_load_fact rfl _ rfl (w.heap.size + 1) rfl v ct G6.out ?_)
      | (refine wpList_load_fact rfl _ rfl (w.heap.size + 2) rfl x cr H6.out ?_))
  refine (Paa.out _).mono ?_
  rintro e W7 ⟨rfl, b7⟩
  have F7 := Lib.hid (Hl.row b7 F6.out)
  have G7 := Lib.hid (Hl.row b7 G6.out)
  have H7 := Lib.hid (Hl.row b7 H6.out)
  have B7 := Lib.hid (B6.out.trans (Below.mono b7 B6.out.size))
  clear F6 G6 H6 B6
  clear b7
  go_wp2_with (first
      | (refine wpList_load_fact rfl _ rfl w.heap.size rfl u cs F7.out ?_)
      | (refine wpList_load_fact rfl _ rfl (w.heap.size + 1) rfl v ct G7.out ?_)
      | (refine wpList_load_fact rfl _ rfl (w.heap.size + 2) rfl x cr H7.out ?_))
  go_ret
  exact ⟨rfl, B7.out⟩

set_option maxRecDepth 100000 in
set_option maxHeartbeats 4000000 in
theorem ordG (u v x : Nat → Int) (s t r : ByteArray) (w : World) (a : Addr) (hK : Konst w) (hE : ErrK a w) (hs : s.size ≤ 9223372036854775807) (ht : t.size ≤ 9223372036854775807) (hr : r.size ≤ 9223372036854775807) (hab : pvB u (cutT s) v (cutT t) = false) (hba : pvB v (cutT t) u (cutT s) = false) (hoa : okT u (cutT s) = true) (hob : okT v (cutT t) = true) (hky : kyB u v = true) (heq : eqB u v (cutT s) (cutT t) = true) :
    Calls Tryd.prog 9 #[.agg (factC u s), .agg (factC v t), .agg (factC x r)] w fun e W' => e = .returned (.bool true) ∧ Below w.heap.size w W' := by
  have hgE : 0 < w.heap.size := World.block_lt_of_cell? w _ hE
  have HK := Lib.hid hK
  have HE := Lib.hid hE
  clear hK hE
  have HS := Lib.hid (fun W (h : Konst W) (h' : ErrK a W) => sane_calls a W h h')
  have Pab := Lib.hid (fun W => Prevails_eq u v (cutT s) (cutT t) false hab W)
  have Pba := Lib.hid (fun W => Prevails_eq v u (cutT t) (cutT s) false hba W)
  have Paa := Lib.hid (fun W => Prevails_eq u u (cutT s) (cutT s) false (pv_irr u (cutT s)) W)
  have HVa := Lib.hid (fun W => Valid_eq u (cutT s) true hoa W)
  have HVb := Lib.hid (fun W => Valid_eq v (cutT t) true hob W)
  have KA := Lib.hid (fun W => Key_calls u (cutT s) W)
  have KB := Lib.hid (fun W => Key_calls v (cutT t) W)
  have hq := fun W => key_eql u v true hky W
  have hn := fun W => runNe u v (cutT s) (cutT t) W
  rw [heq] at hn
  clear hab hba hoa hob hky heq
  have HCu := Lib.hid (fun W => cut_calls u s W hs)
  have HCv := Lib.hid (fun W => cut_calls v t W ht)
  have HCx := Lib.hid (fun W => cut_calls x r W hr)
  have honeU := factC_one u (cutT s)
  have honeV := factC_one v (cutT t)
  have honeX := factC_one x (cutT r)
  generalize cutT s = cs at *
  generalize cutT t = ct at *
  generalize cutT r = cr at *
  go_enter Tryd.func9, Tryd.ntmps9
  go_upto_region 1 with (fail)
  obtain ⟨W0, hW0, f0, f1, f2, b0⟩ := three_rows w (factC u s) (factC v t) (factC x r) 23 23 23
  rw [hW0]
  clear hW0
  have F0 := Lib.hid f0
  have G0 := Lib.hid f1
  have H0 := Lib.hid f2
  have B0 := Lib.hid b0
  clear f0 f1 f2 b0
  go_wp2_with fail
  refine (HS.out _ (HK.out.keep B0.out) (HE.out.keep B0.out hgE)).mono ?_
  rintro e W1 ⟨rfl, b1⟩
  have F1 := Lib.hid (Hl.row b1 F0.out)
  have G1 := Lib.hid (Hl.row b1 G0.out)
  have H1 := Lib.hid (Hl.row b1 H0.out)
  have B1 := Lib.hid (B0.out.trans (Below.mono b1 B0.out.size))
  clear F0 G0 H0 B0
  clear b1
  go_wp2_with fail
  refine wp_region_hl_tail 6 W1 (Hl.refl _) (by kernel_rfl) (by kernel_rfl) ?_
  simp only [List.take_succ_cons, List.take_zero]
  repeat (first
    | go_big_quiet_skip
    | (go_big_quiet_want; refine quiet_load_row _ rfl _ rfl _ _ F1.out ?_; simp only [Act.put, List.setIfInBounds_toArray, List.set_cons_zero, List.set_cons_succ]; go_big_quiet_on)
    | (go_big_quiet_want; refine quiet_load_row _ rfl _ rfl _ _ G1.out ?_; simp only [Act.put, List.setIfInBounds_toArray, List.set_cons_zero, List.set_cons_succ]; go_big_quiet_on)
    | (go_big_quiet_want; refine quiet_load_row _ rfl _ rfl _ _ H1.out ?_; simp only [Act.put, List.setIfInBounds_toArray, List.set_cons_zero, List.set_cons_succ]; go_big_quiet_on)
    | (go_big_quiet_want; go_big_quiet_op; first
      | go_big_quiet_on
      | (apply Exists.intro; (with_reducible refine ⟨fun _ => hl_call (HCu.out _), ?_⟩); go_big_quiet_on)
      | (apply Exists.intro; (with_reducible refine ⟨fun _ => hl_call (HCv.out _), ?_⟩); go_big_quiet_on)
      | (apply Exists.intro; (with_reducible refine ⟨fun _ => hl_call (HCx.out _), ?_⟩); go_big_quiet_on)
      ))
  refine wpQuiet_nil ?_
  intro W2 h2
  simp only [List.drop_succ_cons, List.drop_zero]

  have F2 := Lib.hid (Hl.row h2 F1.out)
  have G2 := Lib.hid (Hl.row h2 G1.out)
  have H2 := Lib.hid (Hl.row h2 H1.out)
  have B2 := Lib.hid (B1.out.trans (Below.mono h2 B1.out.size))
  clear h2 F1 G1 H1 B1
  refine wpList_store_row rfl 23 _ _ rfl w.heap.size (factC u cs) rfl rfl 23 _ F2.out (hiC _ _) rfl honeU ?_
  refine wpList_store_row rfl 23 _ _ rfl (w.heap.size + 1) (factC v ct) rfl rfl 23 _ ((setRow_other _ _ _ _ (by omega)).trans G2.out) (hiC _ _) rfl honeV ?_
  refine wpList_store_row rfl 23 _ _ rfl (w.heap.size + 2) (factC x cr) rfl rfl 23 _ ((setRow_other _ _ _ _ (by omega)).trans ((setRow_other _ _ _ _ (by omega)).trans H2.out)) (hiC _ _) rfl honeX ?_
  obtain ⟨W3, hW3, F3, G3, H3, B3⟩ : ∃ W3, ((W2.setRow w.heap.size (factC u cs)).setRow (w.heap.size + 1) (factC v ct)).setRow (w.heap.size + 2) (factC x cr) = W3 ∧ Hid (W3.heap[w.heap.size]? = some (.cells (factC u cs) 23 (0, 0))) ∧ Hid (W3.heap[w.heap.size + 1]? = some (.cells (factC v ct) 23 (0, 0))) ∧ Hid (W3.heap[w.heap.size + 2]? = some (.cells (factC x cr) 23 (0, 0))) ∧ Hid (Below w.heap.size w W3) :=
    ⟨_, rfl, Lib.hid ((setRow_other _ _ _ _ (by omega)).trans ((setRow_other _ _ _ _ (by omega)).trans (setRow_heap _ _ _ _ _ _ F2.out))), Lib.hid ((setRow_other _ _ _ _ (by omega)).trans (setRow_heap _ _ _ _ _ _ ((setRow_other _ _ _ _ (by omega)).trans G2.out))), Lib.hid (setRow_heap _ _ _ _ _ _ ((setRow_other _ _ _ _ (by omega)).trans ((setRow_other _ _ _ _ (by omega)).trans H2.out))), Lib.hid (below_setRow' (below_setRow' (below_setRow' B2.out _ _ (Nat.le_refl _)) _ _ (by omega)) _ _ (by omega))⟩
  rw [hW3]
  clear hW3 F2 G2 H2 B2
  go_wp2_with (first
      | (refine wpList_load_fact rfl _ rfl w.heap.size rfl u cs F3.out ?_)
      | (refine wpList_load_fact rfl _ rfl (w.heap.size + 1) rfl v ct G3.out ?_)
      | (refine wpList_load_fact rfl _ rfl (w.heap.size + 2) rfl x cr H3.out ?_))
  refine (Pab.out _).mono ?_
  rintro e W4 ⟨rfl, b4⟩
  have F4 := Lib.hid (Hl.row b4 F3.out)
  have G4 := Lib.hid (Hl.row b4 G3.out)
  have H4 := Lib.hid (Hl.row b4 H3.out)
  have B4 := Lib.hid (B3.out.trans (Below.mono b4 B3.out.size))
  clear F3 G3 H3 B3
  clear b4
  go_wp2_with (first
      | (refine wpList_load_fact rfl _ rfl w.heap.size rfl u cs F4.out ?_)
      | (refine wpList_load_fact rfl _ rfl (w.heap.size + 1) rfl v ct G4.out ?_)
      | (refine wpList_load_fact rfl _ rfl (w.heap.size + 2) rfl x cr H4.out ?_))
  refine (Pba.out _).mono ?_
  rintro e W5 ⟨rfl, b5⟩
  have F5 := Lib.hid (Hl.row b5 F4.out)
  have G5 := Lib.hid (Hl.row b5 G4.out)
  have H5 := Lib.hid (Hl.row b5 H4.out)
  have B5 := Lib.hid (B4.out.trans (Below.mono b5 B4.out.size))
  clear F4 G4 H4 B4
  clear b5
  go_wp2_with (first
      | (refine wpList_load_fact rfl _ rfl w.heap.size rfl u cs F5.out ?_)
      | (refine wpList_load_fact rfl _ rfl (w.heap.size + 1) rfl v ct G5.out ?_)
      | (refine wpList_load_fact rfl _ rfl (w.heap.size + 2) rfl x cr H5.out ?_))
  refine wp_region_hl W5 (Hl.refl _) (by kernel_rfl) (by kernel_rfl) ?_
  repeat (first
    | go_big_quiet_skip
    | (go_big_quiet_want; refine quiet_load_row _ rfl _ rfl _ _ F5.out ?_; simp only [Act.put, List.setIfInBounds_toArray, List.set_cons_zero, List.set_cons_succ]; go_big_quiet_on)
    | (go_big_quiet_want; refine quiet_load_row _ rfl _ rfl _ _ G5.out ?_; simp only [Act.put, List.setIfInBounds_toArray, List.set_cons_zero, List.set_cons_succ]; go_big_quiet_on)
    | (go_big_quiet_want; refine quiet_load_row _ rfl _ rfl _ _ H5.out ?_; simp only [Act.put, List.setIfInBounds_toArray, List.set_cons_zero, List.set_cons_succ]; go_big_quiet_on)
    | (go_big_quiet_want; go_big_quiet_op; first
      | go_big_quiet_on
      | (apply Exists.intro; (with_reducible refine ⟨fun _ => hl_call (HVa.out _), ?_⟩); go_big_quiet_on)
      | (apply Exists.intro; (with_reducible refine ⟨fun _ => hl_call (HVb.out _), ?_⟩); go_big_quiet_on)
      | (apply Exists.intro; (with_reducible refine ⟨fun _ => hl_call (KA.out _), ?_⟩); go_big_quiet_on)
      | (apply Exists.intro; (with_reducible refine ⟨fun _ => hl_call (KB.out _), ?_⟩); go_big_quiet_on)
      ))
  refine wpQuiet_nil ?_
  intro W6 h6
  have F6 := Lib.hid (Hl.row h6 F5.out)
  have G6 := Lib.hid (Hl.row h6 G5.out)
  have H6 := Lib.hid (Hl.row h6 H5.out)
  have B6 := Lib.hid (B5.out.trans (Below.mono h6 B5.out.size))
  clear F5 G5 H5 B5
  clear h6
  go_wp2_with (first
      | (refine wpList_load_fact rfl _ rfl w.heap.size rfl u cs F6.out ?_)
      | (refine wpList_load_fact rfl _ rfl (w.heap.size + 1) rfl v ct G6.out ?_)
      | (refine wpList_load_fact rfl _ rfl (w.heap.size + 2) rfl x cr H6.out ?_))
  refine (Paa.out _).mono ?_
  rintro e W7 ⟨rfl, b7⟩
  have F7 := Lib.hid (Hl.row b7 F6.out)
  have G7 := Lib.hid (Hl.row b7 G6.out)
  have H7 := Lib.hid (Hl.row b7 H6.out)
  have B7 := Lib.hid (B6.out.trans (Below.mono b7 B6.out.size))
  clear F6 G6 H6 B6
  clear b7
  go_wp2_with (first
      | (refine wpList_load_fact rfl _ rfl w.heap.size rfl u cs F7.out ?_)
      | (refine wpList_load_fact rfl _ rfl (w.heap.size + 1) rfl v ct G7.out ?_)
      | (refine wpList_load_fact rfl _ rfl (w.heap.size + 2) rfl x cr H7.out ?_))
  go_ret
  exact ⟨rfl, B7.out⟩

theorem ord_walk (u : Nat → Int) (s : ByteArray) (v : Nat → Int) (t : ByteArray) (x : Nat → Int) (r : ByteArray) (w : World) (a : Addr) (hK : Konst w) (hE : ErrK a w) (_ : Ints u) (hs : s.size ≤ 9223372036854775807) (_ : Ints v) (ht : t.size ≤ 9223372036854775807) (_ : Ints x) (hr : r.size ≤ 9223372036854775807) :
    Calls Tryd.prog 9 #[.agg (factC u s), .agg (factC v t), .agg (factC x r)] w fun e W' => e = .returned (.bool true) ∧ Below w.heap.size w W' := by
  rcases hab : pvB u (cutT s) v (cutT t) with _ | _
  · rcases hba : pvB v (cutT t) u (cutT s) with _ | _
    · rcases hoa : okT u (cutT s) with _ | _
      · exact ordD u v x s t r w a hK hE hs ht hr hab hba hoa
      · rcases hob : okT v (cutT t) with _ | _
        · exact ordE u v x s t r w a hK hE hs ht hr hab hba hoa hob
        · rcases hky : kyB u v with _ | _
          · exact ordF u v x s t r w a hK hE hs ht hr hab hba hoa hob hky
          · exact ordG u v x s t r w a hK hE hs ht hr hab hba hoa hob hky (pv_total u v _ _ hoa hob hky hab hba)
    · obtain ⟨hob, hoa, hky, -⟩ := pv_some _ _ _ _ hba
      have hne : eqB u v (cutT s) (cutT t) = false := by
        rcases hc : eqB u v (cutT s) (cutT t) with _ | _
        · rfl
        · have h1 := pv_neq _ _ _ _ hba
          have h2 : eqB v u (cutT t) (cutT s) = true := by
            rw [eqB_iff] at hc ⊢
            exact ⟨fun i hi => (hc.1 i hi).symm, hc.2.symm⟩
          rw [h2] at h1; cases h1
      exact ordC u v x s t r w a hK hE hs ht hr hab hba hoa hob ((ky_sym u v).trans hky) hne
  · obtain ⟨hoa, hob, hky, -⟩ := pv_some _ _ _ _ hab
    have hba := pv_asym _ _ _ _ hab
    have hne := pv_neq _ _ _ _ hab
    rcases hbc : pvB v (cutT t) x (cutT r) with _ | _
    · exact ordA u v x s t r w a hK hE hs ht hr hab hba hoa hob hky hne hbc
    · exact ordB u v x s t r w a hK hE hs ht hr hab hba hoa hob hky hne hbc (pv_trans _ _ _ _ _ _ hab hbc)

end Go.Proofs.YtnbeebndcgoalaaDoor
