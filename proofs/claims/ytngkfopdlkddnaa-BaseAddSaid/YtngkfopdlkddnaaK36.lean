/- The contract of the laws' sane: it holds. | Appending a row of facts of one's own to another; FactsetUnion's plain side. | Rows of facts of one's own: one fact replaced; a copy of a row. -/
import Derived.Test.YtngkfopdlkddnaaK33
import Derived.Test.YtngkfopdlkddnaaK35
import Derived.Test.YtngkfopdlkddnaaK20
import Derived.Test.YtngkfopdlkddnaaK18
import Derived.Maps.AppendAt
import Derived.Test.YtngkfopdlkddnaaK28
import Derived.Laws.CopyRow
namespace Go.Proofs.Ytngkfopdlkddnaa
open Go Go.RowKit Go.Maps
theorem wpList_build3 {P : Program} {ops : Array Oper} {rest : List Oper} {o : Oper} {a : Act} {w : World} {Q : Exit → Act → World → Prop} (hgd : o.guard = none) (t : TypeId) (x y z : Operand) (ho : o.op = .buildSlice t 3 #[(0, x), (1, y), (2, z)])
    (u v q : Value) (hx : a.eval x = u) (hy : a.eval y = v) (hz : a.eval z = q) {v' : Value} {w' : World} (hr : (Instr.buildSlice t 3 #[(0, u), (1, v), (2, q)]).run P w = .ok v' w') (h : wpList P ops Q rest (a.put o.dst v') w') : wpList P ops Q (o :: rest) a w :=
  wpList_plain hgd fun _ hK => by
    unfold Oper.wp execOp
    simp only [ho, hx, hy, hz, List.map_toArray, List.map_cons, List.map_nil, Sem.run_bind, Sem.run_pure, Result.andThen_ok, hr]
    exact hK _ _ h
theorem build_bL (w : World) : (Instr.buildSlice 23 3 #[(0, valF rev1), (1, valF rev2), (2, valF met1)]).run Try.prog w = .ok (.slice (some ⟨w.heap.size, 0, none⟩) 3 3) (w.alloc (.cells (cellsA bL).toArray 29)) := by
  obtain ⟨i0, hi, hz0, hz1, hz2⟩ := info_parts infoF
  refine run_buildSlice w _ _ 3 _ _ i0 _ Try.underlying23 hi hz0 (by rw [hz1]; decide) (by rw [hz1]; decide) ?_
  rw [hz1]
  kernel_rfl
theorem build_cL (w : World) : (Instr.buildSlice 23 3 #[(0, valF con1), (1, valF con2), (2, valF con3)]).run Try.prog w = .ok (.slice (some ⟨w.heap.size, 0, none⟩) 3 3) (w.alloc (.cells (cellsA cL).toArray 29)) := by
  obtain ⟨i0, hi, hz0, hz1, hz2⟩ := info_parts infoF
  refine run_buildSlice w _ _ 3 _ _ i0 _ Try.underlying23 hi hz0 (by rw [hz1]; decide) (by rw [hz1]; decide) ?_
  rw [hz1]
  kernel_rfl
theorem facts_block {w : World} {g : Nat} {l : List Fa} {t : TypeId} (h : w.heap[g]? = some (.cells (cellsA l).toArray t (0, 0))) : FactsS w (some ⟨g, 0, none⟩) l :=
  .inr ⟨g, 0, rfl, fun i hi j x hx => by
    have hj : j < 18 := (Array.getElem?_eq_some_iff.1 hx).1
    rw [cell_of_row _ _ _ _ _ _ h, Nat.zero_add, List.getElem?_toArray, cellsA_get l i j hi hj]
    exact hx⟩
def vsC (g : Nat) (k : Nat) : Value := if k = 3 then .slice (some ⟨g, 0, none⟩) 3 3 else .slice none 0 0
theorem slC {w : World} {g : Nat} (h : FactsS w (some ⟨g, 0, none⟩) cL) : SlB w (vsC g) lsC := fun k _ => by
  unfold vsC lsC
  by_cases e : k = 3
  · rw [if_pos e, if_pos e]; exact ⟨_, 3, rfl, Nat.le_refl _, by decide, h⟩
  · rw [if_neg e, if_neg e]; exact ⟨none, 0, rfl, Nat.le_refl _, by decide, .inl rfl⟩
theorem wpList_load_base {ops : Array Oper} {rest : List Oper} {o : Oper} {a : Act} {w : World} {Q : Exit → Act → World → Prop} (hw : Region.wanted o (yielded ops a.tmps) = true) (x : Operand) (ho : o.op = .load 32 x)
    (g : Nat) (hx : a.eval x = .pointer (some ⟨g, 0, none⟩)) (vs : Nat → Value) (hg : w.heap[g]? = some (.cells (cells10 vs) 32 (0, 0)))
    (h : wpList Try.prog ops Q rest (a.put o.dst (.agg (cells10 vs))) w) : wpList Try.prog ops Q (o :: rest) a w :=
  wpList_step fun _ hK => by
    rw [if_pos hw]
    exact wp_load_row 32 x ho g hx 32 (cells10 vs) (0, 0) _ hg Try.underlying32 rfl info10 (hK _ _ h)
theorem cL_texts : ∀ f ∈ lsC 3, f.2.size ≤ 281474976710656 := by
  intro f hf
  have hf : f ∈ [con1, con2, con3] := hf
  rcases List.mem_cons.1 hf with rfl | hf
  · decide
  · rcases List.mem_cons.1 hf with rfl | hf
    · decide
    · rw [List.mem_singleton.1 hf]; decide
theorem sane_con (g : Nat) (W : World) (h : FactsS W (some ⟨g, 0, none⟩) cL) : Calls Try.prog 19 #[.agg (cells10 (vsC g)), .int .i64 4, .int .i64 5] W fun e W' => e = .returned (.tuple #[.agg (factC con2.1 con2.2), .bool true]) ∧ Below W.heap.size W W' := by
  have := Contract_calls (vsC g) lsC 4 5 W (slC h) (by decide) cL_texts
  rw [show lsC 3 = cL from rfl, con_ef] at this
  exact this
theorem sane_rate (g : Nat) (W : World) (h : FactsS W (some ⟨g, 0, none⟩) cL) : Calls Try.prog 22 #[.agg (cells10 (vsC g)), .int .i64 3, .int .i64 5] W fun e W' => e = .returned (.tuple #[.int .i64 0, .bool false]) ∧ Below W.heap.size W W' :=
  Rate_calls (vsC g) lsC 3 5 W rfl (slC h) (fun f hf => by cases hf)
theorem sane_hold (g : Nat) (W : World) (h : FactsS W (some ⟨g, 0, none⟩) cL) : Calls Try.prog 23 #[.agg (cells10 (vsC g))] W fun e W' => (∃ A cap, e = .returned (.slice A 1 cap)) ∧ Below W.heap.size W W' := by
  refine (Holders_calls (vsC g) lsC W (slC h) (fun k _ => by unfold lsC; split <;> decide)).mono ?_
  rintro e W' ⟨v, rfl, hr, hb⟩
  rw [hol_c] at hr
  obtain ⟨A, cap, rfl, -⟩ := RowI.slice hr
  exact ⟨⟨A, cap, rfl⟩, hb⟩
theorem one_row4 {w : World} {base : Nat} {v : Value} {f : Fa} (h : RowA w base v [f]) : ∃ g cap, v = .slice (some ⟨g, 0, none⟩) 1 cap ∧ ∀ j x, (factC f.1 f.2)[j]? = some x → w.cell? ⟨g, j, none⟩ = some x := by
  obtain ⟨A, cap, rfl, hc, hs⟩ := RowA.slice h
  rcases h.2 with ⟨h0, _⟩ | ⟨g, cap', cur, hv, _⟩
  · cases h0
  · cases hv
    refine ⟨g, cap, rfl, fun j x hx => ?_⟩
    rcases hs with h0 | ⟨b, o, e, hst⟩
    · cases h0
    · cases e
      have := hst 0 (by simp) j x hx
      simpa using this
set_option maxRecDepth 100000 in
set_option maxHeartbeats 8000000 in
theorem sane_calls (w : World) : Calls Try.prog 7 #[] w fun e W' => e = .returned (.bool true) ∧ Below w.heap.size w W' := by
  go_enter Try.func7, Try.ntmps7
  go_wp2_with (refine wpList_build3 rfl 23 (.tmp 9) (.tmp 10) (.tmp 11) rfl (valF rev1) (valF rev2) (valF met1) rfl rfl rfl (build_bL _) ?_)
  obtain ⟨W0, hW0, f0, b0⟩ := one_row w (cellsA bL).toArray 29
  rw [hW0]
  clear hW0
  have HOF : Calls Try.prog 11 #[.slice (some ⟨w.heap.size, 0, none⟩) 3 3] W0 _ := Of_calls (some ⟨w.heap.size, 0, none⟩) bL 3 W0 (facts_block f0) (by decide)
  have B0 := Lib.hid b0
  clear f0 b0
  refine HOF.mono ?_
  rintro e W1 ⟨vs, Ms, rfl, hP, hrows, b1⟩
  clear HOF
  have B1 := Lib.hid (B0.out.trans (Below.mono b1 B0.out.size))
  have HP := Lib.hid hP
  have HSL := Lib.hid (show SlB W1 vs (fun k => (Ms k).map faX) from fun k hk => by
    obtain ⟨A, cap, h1, h2, h3⟩ := RowA.slice (hrows k hk).1
    exact ⟨A, cap, h1, h2, by have := (hrows k hk).2; rw [List.length_map]; have e : bL.length = 3 := rfl; omega, h3⟩)
  have HR4 := Lib.hid (hrows 4 (by omega)).1
  have HR9 := Lib.hid (hrows 9 (by omega)).1
  rw [ofP_at hP (by omega) bL_4] at HR4
  rw [ofP_at hP (by omega) bL_9] at HR9
  have H9 := Lib.hid (show (Ms 9).map faX = [faX (nfX met1)] by rw [ofP_at hP (by omega) bL_9]; rfl)
  have HBC := Lib.hid (sameB_bc hP)
  clear hrows hP b1
  have hone : (cells10 vs).all (·.oneCell') = true := by
    have hk : ∀ k, k < 10 → (vs k).oneCell' = true := fun k hk => by obtain ⟨A, cap, e, _⟩ := HSL.out k hk; rw [e]; rfl
    simp [cells10, hk 0 (by omega), hk 1 (by omega), hk 2 (by omega), hk 3 (by omega), hk 4 (by omega), hk 5 (by omega), hk 6 (by omega), hk 7 (by omega), hk 8 (by omega), hk 9 (by omega)]
  have hi10 : (Try.prog.info? 32).map (·.size) = some (cells10 vs).size := info10
  go_upto_region 2 with (refine wpList_store_row rfl 32 _ _ rfl W1.heap.size (cells10 vs) rfl rfl 32 (cells10 (fun _ => .slice none 0 0)) (heap_new W1 _) hi10 rfl hone ?_)
  obtain ⟨W2, hW2, f2, b2⟩ := box_new W1 (cells10 (fun _ => .slice none 0 0)) (cells10 vs) 32
  rw [show (W1.alloc (.cells #[.slice none 0 0, .slice none 0 0, .slice none 0 0, .slice none 0 0, .slice none 0 0, .slice none 0 0, .slice none 0 0, .slice none 0 0, .slice none 0 0, .slice none 0 0] 32)).setRow W1.heap.size (cells10 vs) = W2 from hW2]
  try simp only [Act.put]
  have FB := Lib.hid f2
  have B2 := Lib.hid (B1.out.trans (Below.mono b2 B1.out.size))
  have BX := Lib.hid b2
  clear hW2 f2 b2
  obtain ⟨W3, hrun, f3, b3⟩ : ∃ W3, (Instr.buildSlice 23 3 #[(0, valF con1), (1, valF con2), (2, valF con3)]).run Try.prog W2 = .ok (.slice (some ⟨W2.heap.size, 0, none⟩) 3 3) W3 ∧ W3.heap[W2.heap.size]? = some (.cells (cellsA cL).toArray 29 (0, 0)) ∧ Below W2.heap.size W2 W3 := ⟨_, build_cL W2, heap_new W2 _, (Below.refl _ W2).alloc (Nat.le_refl _) _⟩
  have HCL := Lib.hid (facts_block f3)
  have FB3 := Lib.hid (Hl.row b3 FB.out)
  have B3 := Lib.hid (B2.out.trans (Below.mono b3 B2.out.size))
  have BX3 := Lib.hid (BX.out.trans (b3.mono BX.out.size))
  clear f3 b3 FB B2 BX
  generalize W2.heap.size = gc at *
  have honeC : (cells10 (vsC gc)).all (·.oneCell') = true := by simp [cells10, vsC, Value.oneCell']
  have hi10C : (Try.prog.info? 32).map (·.size) = some (cells10 (vsC gc)).size := info10
  go_upto_region 3 with (first
    | (refine wpList_build3 rfl 23 (.tmp 14) (.tmp 15) (.tmp 16) rfl (valF con1) (valF con2) (valF con3) rfl rfl rfl hrun ?_)
    | (refine wpList_store_row rfl 32 _ _ rfl W3.heap.size (cells10 (vsC gc)) rfl rfl 32 (cells10 (fun _ => .slice none 0 0)) (heap_new W3 _) hi10C rfl honeC ?_))
  obtain ⟨W4, hW4, f4, b4⟩ := box_new W3 (cells10 (fun _ => .slice none 0 0)) (cells10 (vsC gc)) 32
  rw [show (W3.alloc (.cells #[.slice none 0 0, .slice none 0 0, .slice none 0 0, .slice none 0 0, .slice none 0 0, .slice none 0 0, .slice none 0 0, .slice none 0 0, .slice none 0 0, .slice none 0 0] 32)).setRow W3.heap.size (cells10 (vsC gc)) = W4 from hW4]
  try simp only [Act.put]
  have HCL4 := Lib.hid (HCL.out.keep b4)
  have FB4 := Lib.hid (Hl.row b4 FB3.out)
  have FC4 := Lib.hid f4
  have B4 := Lib.hid (B3.out.trans (Below.mono b4 B3.out.size))
  have BX4 := Lib.hid (BX3.out.trans (b4.mono BX3.out.size))
  clear hW4 f4 b4 hrun HCL FB3 B3 BX3
  generalize W3.heap.size = pc at *
  go_wp2_with (refine wpList_load_base rfl _ rfl pc rfl _ FC4.out ?_)
  refine (sane_con gc W4 HCL4.out).mono ?_
  rintro e W5 ⟨rfl, b5⟩
  have HCL5 := Lib.hid (HCL4.out.keep b5)
  have FB5 := Lib.hid (Hl.row b5 FB4.out)
  have FC5 := Lib.hid (Hl.row b5 FC4.out)
  have B5 := Lib.hid (B4.out.trans (Below.mono b5 B4.out.size))
  have BX5 := Lib.hid (BX4.out.trans (b5.mono BX4.out.size))
  clear HCL4 FB4 FC4 B4 BX4 b5
  have hone2 := factC_one con2.1 con2.2
  go_upto_region 4 with (refine wpList_store_row rfl 29 _ _ rfl W5.heap.size (factC con2.1 con2.2) rfl rfl 29 (factC (fun _ => 0) ⟨#[]⟩) (heap_new W5 _) (hiC _ _) rfl hone2 ?_)
  obtain ⟨W6, hW6, f6, b6⟩ := box_new W5 (factC (fun _ => 0) ⟨#[]⟩) (factC con2.1 con2.2) 29
  rw [hW6]
  try simp only [Act.put]
  have CF6 := Lib.hid (show W6.cell? ⟨W5.heap.size, 11, none⟩ = some (.int .i64 3) from (row18 f6).2.2.2.2.2.2.2.2.2.2.2.1)
  clear hW6 f6
  have HCL6 := Lib.hid (HCL5.out.keep b6)
  have FB6 := Lib.hid (Hl.row b6 FB5.out)
  have FC6 := Lib.hid (Hl.row b6 FC5.out)
  have B6 := Lib.hid (B5.out.trans (Below.mono b6 B5.out.size))
  have BX6 := Lib.hid (BX5.out.trans (b6.mono BX5.out.size))
  clear HCL5 FB5 FC5 B5 BX5 b6
  generalize W5.heap.size = pf at *
  go_wp2_with (refine wpList_load_base rfl _ rfl pc rfl _ FC6.out ?_)
  refine (Rate_zero (vsC gc) 5 W6).mono ?_
  rintro e W7 ⟨rfl, b7⟩
  have HCL7 := Lib.hid (HCL6.out.keep b7)
  have FB7 := Lib.hid (Hl.row b7 FB6.out)
  have FC7 := Lib.hid (Hl.row b7 FC6.out)
  have B7 := Lib.hid (B6.out.trans (Below.mono b7 B6.out.size))
  have BX7 := Lib.hid (BX6.out.trans (b7.mono BX6.out.size))
  have CF7 := Lib.hid (Hl.cell b7 CF6.out)
  clear HCL6 FB6 FC6 B6 BX6 b7 CF6
  go_wp2_with (refine wpList_load_base rfl _ rfl pc rfl _ FC7.out ?_)
  refine (sane_rate gc W7 HCL7.out).mono ?_
  rintro e W8 ⟨rfl, b8⟩
  have HCL8 := Lib.hid (HCL7.out.keep b8)
  have FB8 := Lib.hid (Hl.row b8 FB7.out)
  have FC8 := Lib.hid (Hl.row b8 FC7.out)
  have B8 := Lib.hid (B7.out.trans (Below.mono b8 B7.out.size))
  have BX8 := Lib.hid (BX7.out.trans (b8.mono BX7.out.size))
  have CF8 := Lib.hid (Hl.cell b8 CF7.out)
  clear HCL7 FB7 FC7 B7 BX7 b8 CF7
  obtain ⟨g4, cap4, h4, hc4⟩ := one_row4 HR4.out
  obtain ⟨g9, cap9, h9, hc9⟩ := one_row4 HR9.out
  have c4 : W8.cell? ⟨W1.heap.size, 4, none⟩ = some (.slice (some ⟨g4, 0, none⟩) 1 cap4) := by rw [cell_of_row _ _ _ _ _ _ FB8.out, ← h4]; rfl
  have c9 : W8.cell? ⟨W1.heap.size, 9, none⟩ = some (.slice (some ⟨g9, 0, none⟩) 1 cap9) := by rw [cell_of_row _ _ _ _ _ _ FB8.out, ← h9]; rfl
  have HG4 := Lib.hid (show W1.cell? ⟨g4, 13, none⟩ = some (.int .i64 7) from hc4 13 _ rfl)
  have HV4 := Lib.hid h4
  have HLL := Lib.hid (show ((Ms 9).map faX).length ≤ 100000 by rw [H9.out]; decide)
  have HTX := Lib.hid (show ∀ f ∈ (Ms 9).map faX, f.2.size ≤ 281474976710656 from fun f hf => by rw [H9.out, List.mem_singleton] at hf; rw [hf]; decide)
  have HS1 := Lib.hid (fun W (hb : Below W1.heap.size W1 W) => SameB_calls vs vs _ _ W (HSL.out.below hb) (HSL.out.below hb))
  have HS2 := Lib.hid (fun W (hb : Below W1.heap.size W1 W) (hc : FactsS W (some ⟨gc, 0, none⟩) cL) => SameB_calls vs (vsC gc) _ lsC W (HSL.out.below hb) (slC hc))
  have HM2 := Lib.hid (fun W (hb : Below W1.heap.size W1 W) => Method_calls vs _ 2 2 W (HSL.out.below hb) HLL.out HTX.out)
  have HM3 := Lib.hid (fun W (hb : Below W1.heap.size W1 W) => Method_calls vs _ 2 3 W (HSL.out.below hb) HLL.out HTX.out)
  simp only [sameB_self, HBC.out, H9.out, met_ef2, met_ef3] at HS1 HS2 HM2 HM3
  clear h4 h9 hc4 hc9 HR4 HR9 HBC H9 HP HLL HTX
  go_wp2_with (refine wpList_load_base rfl _ rfl W1.heap.size rfl _ FB8.out ?_)
  refine (HS1.out W8 BX8.out).mono ?_
  rintro e W9 ⟨rfl, b9⟩
  clear c4 c9
  have HCL9 := Lib.hid (HCL8.out.keep b9)
  have FB9 := Lib.hid (Hl.row b9 FB8.out)
  have FC9 := Lib.hid (Hl.row b9 FC8.out)
  have B9 := Lib.hid (B8.out.trans (Below.mono b9 B8.out.size))
  have BX9 := Lib.hid (BX8.out.trans (b9.mono BX8.out.size))
  have CF9 := Lib.hid (Hl.cell b9 CF8.out)
  clear HCL8 FB8 FC8 B8 BX8 b9 CF8
  go_wp2_with (first | (refine wpList_load_base rfl _ rfl W1.heap.size rfl _ FB9.out ?_) | (refine wpList_load_base rfl _ rfl pc rfl _ FC9.out ?_))
  refine (HS2.out W9 BX9.out HCL9.out).mono ?_
  rintro e W10 ⟨rfl, b10⟩
  have HCL10 := Lib.hid (HCL9.out.keep b10)
  have FB10 := Lib.hid (Hl.row b10 FB9.out)
  have FC10 := Lib.hid (Hl.row b10 FC9.out)
  have B10 := Lib.hid (B9.out.trans (Below.mono b10 B9.out.size))
  have BX10 := Lib.hid (BX9.out.trans (b10.mono BX9.out.size))
  have CF10 := Lib.hid (Hl.cell b10 CF9.out)
  clear HCL9 FB9 FC9 B9 BX9 b10 CF9
  have c4 : W10.cell? ⟨W1.heap.size, 4, none⟩ = some (.slice (some ⟨g4, 0, none⟩) 1 cap4) := by rw [cell_of_row _ _ _ _ _ _ FB10.out, ← HV4.out]; rfl
  have c7 : W10.cell? ⟨g4, 13, none⟩ = some (.int .i64 7) := Hl.cell BX10.out HG4.out
  go_wp2_with (refine wpList_load_base rfl _ rfl W1.heap.size rfl _ FB10.out ?_)
  refine (HM2.out W10 BX10.out).mono ?_
  rintro e W11 ⟨rfl, b11⟩
  clear c4 c7
  have HCL11 := Lib.hid (HCL10.out.keep b11)
  have FB11 := Lib.hid (Hl.row b11 FB10.out)
  have FC11 := Lib.hid (Hl.row b11 FC10.out)
  have B11 := Lib.hid (B10.out.trans (Below.mono b11 B10.out.size))
  have BX11 := Lib.hid (BX10.out.trans (b11.mono BX10.out.size))
  have CF11 := Lib.hid (Hl.cell b11 CF10.out)
  clear HCL10 FB10 FC10 B10 BX10 b11 CF10
  go_wp2_with (refine wpList_load_base rfl _ rfl W1.heap.size rfl _ FB11.out ?_)
  refine (HM3.out W11 BX11.out).mono ?_
  rintro e W12 ⟨rfl, b12⟩
  have HCL12 := Lib.hid (HCL11.out.keep b12)
  have FB12 := Lib.hid (Hl.row b12 FB11.out)
  have FC12 := Lib.hid (Hl.row b12 FC11.out)
  have B12 := Lib.hid (B11.out.trans (Below.mono b12 B11.out.size))
  have BX12 := Lib.hid (BX11.out.trans (b12.mono BX11.out.size))
  have CF12 := Lib.hid (Hl.cell b12 CF11.out)
  clear HCL11 FB11 FC11 B11 BX11 b12 CF11
  have c11 := CF12.out
  go_wp2_with (refine wpList_load_base rfl _ rfl pc rfl _ FC12.out ?_)
  refine (sane_hold gc W12 HCL12.out).mono ?_
  rintro e W13 ⟨⟨A13, cap13, rfl⟩, b13⟩
  clear c11
  have B13 := Lib.hid (B12.out.trans (Below.mono b13 B12.out.size))
  clear b13
  go_wp2_with fail
  go_ret
  exact ⟨rfl, B13.out⟩
end Go.Proofs.Ytngkfopdlkddnaa
namespace Go.Proofs.Ytngkfopdlkddnaa
open Go.RowKit
theorem cellsA_app (l m : List Fa) : cellsA (l ++ m) = cellsA l ++ cellsA m := by unfold cellsA; rw [List.flatMap_append]
theorem append_facts (base base2 : Nat) (w : World) {v u : Value} {l m : List Fa} (hv : RowA w base v l) (hu : RowA w base2 u m) (hb : base ≤ w.heap.size) (hlen : l.length + m.length ≤ 1000000) (ty : TypeId) :
    ∃ v' w', (Builtin.append_ #[23, 23] ty #[v, u]).run Try.prog w = .ok v' w' ∧ RowA w' base v' (l ++ m) ∧ w.grownBy w' v.ownBlock := by
  obtain ⟨i0, hi, hz0, hz1, hz2⟩ := info_parts infoF
  rcases hu.2 with ⟨rfl, h0⟩ | ⟨g, cap, cur, rfl, _, hg, hcap, _, _, htake⟩
  · have hm : m = [] := List.length_eq_zero_iff.1 h0
    subst hm
    refine ⟨v, w, run_append_owned_none w base 23 ty 29 i0 18 Try.underlying23 hi v l.length (cellsA l) hv, ?_, ⟨rfl, rfl, rfl, Nat.le_refl _, fun _ _ _ => rfl⟩⟩
    rw [List.append_nil]; exact hv
  · have hone : ∀ x ∈ cellsA m, x.oneCell' = true := by
      intro x hx
      unfold cellsA at hx
      obtain ⟨f, _, hf⟩ := List.mem_flatMap.1 hx
      exact Array.all_eq_true_iff_forall_mem.1 (factC_one f.1 f.2) x (Array.mem_def.2 hf)
    obtain ⟨v', w', hr, ho, hgr, _, _⟩ := run_append_own_at w base 23 ty 29 i0 _ 18 152 Try.underlying23 hi hz0 hz1 hz2 rfl (by decide) v l.length (cellsA l) hv ⟨g, 0, none⟩ m.length cap (cellsA m) (cellsA_length m) (by
      intro j x hx
      have e : Addr.add ⟨g, 0, none⟩ j = ⟨g, 0 + j, none⟩ := by unfold Addr.add; split <;> simp_all
      rw [e, cell_of_row _ _ _ _ _ _ hg, Nat.zero_add, ← Array.getElem?_toList]
      rw [← htake, List.getElem?_take] at hx
      split at hx
      · exact hx
      · cases hx) hone (by unfold maxLen; omega) (by omega) hb
    refine ⟨v', w', hr, ?_, hgr⟩
    unfold RowA
    rw [List.length_append, cellsA_app]
    exact ho

end Go.Proofs.Ytngkfopdlkddnaa
namespace Go.Proofs.Ytngkfopdlkddnaa
open Go Go.RowKit Go.Maps
/-- A value of several cells is stored into the middle of a row. -/
theorem run_storeVar_at {P : Program} (w : World) (g o : Nat) (t ty : TypeId) (cur cells : Array Value) (hg : w.heap[g]? = some (.cells cur t (0, 0))) (hi : (P.info? ty).map (·.size) = some cells.size)
    (hfit : o + cells.size ≤ cur.size) (h1 : cells.all (·.oneCell') = true) :
    (storeVar ty ⟨g, o, none⟩ (.agg cells)).run P w = .ok () (w.setRow g (cur.toList.take o ++ cells.toList ++ cur.toList.drop (o + cells.toList.length)).toArray) := by
  have hst := run_storeCells_at P g o t cells.toList 0 cur w hg (by simpa using hfit) (fun v hv => (Array.all_eq_true_iff_forall_mem.1 h1) v (by simpa using hv))
  cases hq : P.info? ty with
  | none => simp [hq] at hi
  | some i =>
    have hs : cells.size = i.size := by simp [hq] at hi; omega
    simp only [Nat.add_zero] at hst
    simp [storeVar, sizeOf, typeInfo, hq, Value.cells, hs, hst]
theorem set_parts (l : List Fa) (m : Nat) (hm : m < l.length) (f : Fa) : l.set m f = l.take m ++ f :: l.drop (m + 1) := by rw [List.set_eq_take_append_cons_drop, if_pos hm]
theorem self_parts (l : List Fa) (m : Nat) (hm : m < l.length) : l = l.take m ++ l[m] :: l.drop (m + 1) := by
  conv => lhs; rw [← List.take_append_drop m l]
  rw [List.drop_eq_getElem_cons hm]
theorem cellsA_cons (f : Fa) (l : List Fa) : cellsA (f :: l) = (factC f.1 f.2).toList ++ cellsA l := by unfold cellsA; rw [List.flatMap_cons]
set_option maxRecDepth 100000 in
theorem setA (w : World) (base g n cap : Nat) (l : List Fa) (h : RowA w base (.slice (some ⟨g, 0, none⟩) n cap) l) (m : Nat) (hm : m < l.length) (f : Fa) :
    ∃ w2, (storeVar 29 ⟨g, m * 18, none⟩ (.agg (factC f.1 f.2))).run Try.prog w = .ok () w2 ∧ RowA w2 base (.slice (some ⟨g, 0, none⟩) n cap) (l.set m f) ∧ w.grownBy w2 (some g) := by
  rcases h.2 with ⟨h0, _⟩ | ⟨g', cap', cur, hv, hbg, hg, hcap, hmx, hsz, htk⟩
  · cases h0
  cases hv
  have hone := factC_one f.1 f.2
  have h18 : (factC f.1 f.2).toList.length = 18 := rfl
  have hle : l.length * 18 ≤ cap * 18 := Nat.mul_le_mul_right 18 hcap
  have hfit : m * 18 + (factC f.1 f.2).size ≤ cur.size := by
    have h18' : (factC f.1 f.2).size = 18 := rfl
    rw [h18', hsz]; omega
  have hrun := run_storeVar_at (P := Try.prog) w g (m * 18) 29 29 cur (factC f.1 f.2) hg (hiC _ _) hfit hone
  refine ⟨_, hrun, ?_, ⟨rfl, rfl, rfl, by simp, fun k _ hne => setRow_other _ _ _ _ (fun e => hne (by rw [e]))⟩⟩
  obtain ⟨r, hr⟩ : ∃ r, cur.toList = cellsA l ++ r := ⟨cur.toList.drop (l.length * 18), by rw [← htk, List.take_append_drop]⟩
  have hl1 : (cellsA (l.take m)).length = m * 18 := by rw [cellsA_length, List.length_take]; congr 1; omega
  have hcur : cur.toList = cellsA (l.take m) ++ ((factC l[m].1 l[m].2).toList ++ (cellsA (l.drop (m + 1)) ++ r)) := by
    rw [hr]
    conv => lhs; rw [self_parts l m hm]
    rw [cellsA_app, cellsA_cons]
    simp only [List.append_assoc]
  have h18m : (factC l[m].1 l[m].2).toList.length = 18 := rfl
  have e1 : cur.toList.take (m * 18) = cellsA (l.take m) := by rw [hcur, List.take_left' hl1]
  have e2 : cur.toList.drop (m * 18 + (factC f.1 f.2).toList.length) = cellsA (l.drop (m + 1)) ++ r := by
    rw [hcur, h18, ← List.append_assoc, List.drop_left' (by rw [List.length_append, hl1, h18m])]
  rw [e1, e2]
  have hlen : (l.set m f).length = l.length := List.length_set ..
  have hset : cellsA (l.set m f) = cellsA (l.take m) ++ ((factC f.1 f.2).toList ++ cellsA (l.drop (m + 1))) := by rw [set_parts l m hm f, cellsA_app, cellsA_cons]
  have hz : (cellsA (l.take m) ++ (factC f.1 f.2).toList ++ (cellsA (l.drop (m + 1)) ++ r)).length = cap * 18 := by
    have := congrArg List.length hcur
    rw [Array.length_toList, hsz] at this
    simp only [List.length_append, h18m] at this
    simp only [List.length_append, h18]
    omega
  refine ⟨by rw [cellsA_length], .inr ⟨g, cap, _, by rw [hlen], hbg, setRow_heap _ g _ _ 29 (0, 0) hg, by rw [hlen]; exact hcap, hmx, by rw [List.size_toArray]; exact hz, ?_⟩⟩
  · rw [hlen, hset]
    have h3 : cellsA (l.take m) ++ (factC f.1 f.2).toList ++ (cellsA (l.drop (m + 1)) ++ r) = (cellsA (l.take m) ++ ((factC f.1 f.2).toList ++ cellsA (l.drop (m + 1)))) ++ r := by simp only [List.append_assoc]
    rw [h3, List.take_left']
    rw [← hset, cellsA_length, hlen]
theorem emptyA (w : World) (base : Nat) (hb : base ≤ w.heap.size) : RowA (w.alloc (.cells #[] 29)) base (.slice (some ⟨w.heap.size, 0, none⟩) 0 0) [] :=
  World.ownsRow_made w #[] 0 hb (by unfold maxLen; omega) rfl
end Go.Proofs.Ytngkfopdlkddnaa
