/- The contract of the laws' same: whether two sets have the same IDs and facts. Condition: the table of constants reads as the program lays it. -/
import Derived.Test.YtmhphmolbjjopaaDoorOf
namespace Go.Proofs.YtmhphmolbjjopaaDoor
open Go.RowKit Go.Maps

/-- Two sets are the same. -/
def sameB (fs gs : List OkF) : Bool := decide (idsE (fs.map entF) = idsE (gs.map entF)) && eqL (fs.map (·.1)) (gs.map (·.1))
theorem FactsS.of {w : World} {base : Nat} {v : Value} {fs : List OkF} (h : RowF w base v fs) : ∃ A cap, v = .slice A fs.length cap ∧ fs.length ≤ cap ∧ FactsS w A (fs.map (·.1)) := by
  obtain ⟨A, cap, e, hc, hs⟩ := RowA.slice h.rowA
  rw [List.length_map] at e hc
  exact ⟨A, cap, e, hc, hs⟩
set_option maxRecDepth 100000 in
set_option maxHeartbeats 1000000 in
theorem same_ids (p b r d : Nat) (fs gs : List OkF) (w : World) (_hK : Konst w) (hS : SetAt w p b (fs.map entF)) (hT : SetAt w r d (gs.map entF)) (gS : Good (fs.map entF)) (gT : Good (gs.map entF)) (hid : idsE (fs.map entF) ≠ idsE (gs.map entF)) :
    Calls Tryd.prog 18 #[.pointer (some ⟨p, 0, none⟩), .pointer (some ⟨r, 0, none⟩)] w fun e W' => e = .returned (.bool false) ∧ Below w.heap.size w W' := by
  have hlS : fs.length ≤ 4000 := by have := gS.2.2; rwa [List.length_map] at this
  have hlT : gs.length ≤ 4000 := by have := gT.2.2; rwa [List.length_map] at this
  have hiS : (idsE (fs.map entF)).length ≤ 1000000 := by unfold idsE; rw [List.length_map, List.length_map]; omega
  have PS := fun (W : World) (h : Below w.heap.size w W) => (Or.inr ⟨p, b, rfl, hS.below h, gS⟩ : SetP W (some ⟨p, 0, none⟩) (fs.map entF))
  have PT := fun (W : World) (h : Below w.heap.size w W) => (Or.inr ⟨r, d, rfl, hT.below h, gT⟩ : SetP W (some ⟨r, 0, none⟩) (gs.map entF))
  have HI1 := Lib.hid (fun (W : World) (h : Below w.heap.size w W) => IDs_calls _ _ W (PS W h))
  have HI2 := Lib.hid (fun (W : World) (h : Below w.heap.size w W) => IDs_calls _ _ W (PT W h))
  rw [show (fs.map entF).map (·.1) = idsE (fs.map entF) from rfl] at HI1
  rw [show (gs.map entF).map (·.1) = idsE (gs.map entF) from rfl] at HI2
  have HSS := Lib.hid (fun (W : World) A ca B cb (hA : Strs W A (idsE (fs.map entF))) (hB : Strs W B (idsE (gs.map entF))) => same_any (idsE (fs.map entF)) (idsE (gs.map entF)) A B ca cb W hA hB hiS)
  clear PS PT hS hT gS gT hlS hlT hiS
  have hde := decide_eq_false hid
  generalize idsE (fs.map entF) = I at *
  generalize idsE (gs.map entF) = J at *
  go_enter Tryd.func18, Tryd.ntmps18
  go_wp2_with fail
  refine (HI1.out w (Below.refl _ _)).mono ?_
  rintro e W1 ⟨v1, rfl, row1, b1⟩
  obtain ⟨A1, c1, rfl, -, s1⟩ := RowS.slice row1
  have B1 := Lib.hid b1
  have S1 := Lib.hid s1
  clear row1 s1 b1 HI1
  go_wp2_with fail
  refine (HI2.out W1 B1.out).mono ?_
  rintro e W2 ⟨v2, rfl, row2, b2⟩
  obtain ⟨A2, c2, rfl, -, s2⟩ := RowS.slice row2
  have B2 := Lib.hid (B1.out.trans (b2.mono B1.out.size))
  have hss := HSS.out W2 A1 c1 A2 c2 (S1.out.keep b2) s2
  clear row2 s2 b2 HI2 HSS S1 B1
  rw [hde] at hss
  go_wp2_with fail
  refine hss.mono ?_
  rintro e W3 ⟨rfl, b3⟩
  have B3 := Lib.hid (B2.out.trans (b3.mono B2.out.size))
  clear hss b3 B2
  go_wp2_with fail
  go_ret
  exact ⟨rfl, B3.out⟩
set_option maxRecDepth 100000 in
set_option maxHeartbeats 1000000 in
theorem same_facts (p b r d : Nat) (fs gs : List OkF) (w : World) (_hK : Konst w) (hS : SetAt w p b (fs.map entF)) (hT : SetAt w r d (gs.map entF)) (gS : Good (fs.map entF)) (gT : Good (gs.map entF)) (hid : idsE (fs.map entF) = idsE (gs.map entF)) (hfa : eqL (fs.map (·.1)) (gs.map (·.1)) = false) :
    Calls Tryd.prog 18 #[.pointer (some ⟨p, 0, none⟩), .pointer (some ⟨r, 0, none⟩)] w fun e W' => e = .returned (.bool false) ∧ Below w.heap.size w W' := by
  have hlS : fs.length ≤ 4000 := by have := gS.2.2; rwa [List.length_map] at this
  have hlT : gs.length ≤ 4000 := by have := gT.2.2; rwa [List.length_map] at this
  have hiS : (idsE (fs.map entF)).length ≤ 1000000 := by unfold idsE; rw [List.length_map, List.length_map]; omega
  have PS := fun (W : World) (h : Below w.heap.size w W) => (Or.inr ⟨p, b, rfl, hS.below h, gS⟩ : SetP W (some ⟨p, 0, none⟩) (fs.map entF))
  have PT := fun (W : World) (h : Below w.heap.size w W) => (Or.inr ⟨r, d, rfl, hT.below h, gT⟩ : SetP W (some ⟨r, 0, none⟩) (gs.map entF))
  have HI1 := Lib.hid (fun (W : World) (h : Below w.heap.size w W) => IDs_calls _ _ W (PS W h))
  have HI2 := Lib.hid (fun (W : World) (h : Below w.heap.size w W) => IDs_calls _ _ W (PT W h))
  rw [show (fs.map entF).map (·.1) = idsE (fs.map entF) from rfl] at HI1
  rw [show (gs.map entF).map (·.1) = idsE (gs.map entF) from rfl] at HI2
  have HSS := Lib.hid (fun (W : World) A ca B cb (hA : Strs W A (idsE (fs.map entF))) (hB : Strs W B (idsE (gs.map entF))) => same_any (idsE (fs.map entF)) (idsE (gs.map entF)) A B ca cb W hA hB hiS)
  have HF1 := Lib.hid (fun (W : World) (h : Below w.heap.size w W) => Facts_calls _ fs W (PS W h))
  have HF2 := Lib.hid (fun (W : World) (h : Below w.heap.size w W) => Facts_calls _ gs W (PT W h))
  have HSF := Lib.hid (fun (W : World) A ca B cb (hA : FactsS W A (fs.map (·.1))) (hB : FactsS W B (gs.map (·.1))) => sameF_any (fs.map (·.1)) (gs.map (·.1)) A B ca cb W hA hB (by rw [List.length_map]; omega))
  rw [List.length_map, List.length_map] at HSF
  clear PS PT hS hT gS gT hlS hlT hiS
  have hde := decide_eq_true hid
  have Hfa := Lib.hid hfa
  clear hid hfa
  generalize idsE (fs.map entF) = I at *
  generalize idsE (gs.map entF) = J at *
  go_enter Tryd.func18, Tryd.ntmps18
  go_wp2_with fail
  refine (HI1.out w (Below.refl _ _)).mono ?_
  rintro e W1 ⟨v1, rfl, row1, b1⟩
  obtain ⟨A1, c1, rfl, -, s1⟩ := RowS.slice row1
  have B1 := Lib.hid b1
  have S1 := Lib.hid s1
  clear row1 s1 b1 HI1
  go_wp2_with fail
  refine (HI2.out W1 B1.out).mono ?_
  rintro e W2 ⟨v2, rfl, row2, b2⟩
  obtain ⟨A2, c2, rfl, -, s2⟩ := RowS.slice row2
  have B2 := Lib.hid (B1.out.trans (b2.mono B1.out.size))
  have hss := HSS.out W2 A1 c1 A2 c2 (S1.out.keep b2) s2
  clear row2 s2 b2 HI2 HSS S1 B1
  rw [hde] at hss
  go_wp2_with fail
  refine hss.mono ?_
  rintro e W3 ⟨rfl, b3⟩
  have B3 := Lib.hid (B2.out.trans (b3.mono B2.out.size))
  clear hss b3 B2
  go_wp2_with fail
  refine (HF1.out W3 B3.out).mono ?_
  rintro e W4 ⟨v1, rfl, row1, b4⟩
  obtain ⟨A3, c3, rfl, -, s1⟩ := FactsS.of row1
  have B4 := Lib.hid (B3.out.trans (b4.mono B3.out.size))
  have S1 := Lib.hid s1
  clear row1 s1 b4 HF1 B3
  go_wp2_with fail
  refine (HF2.out W4 B4.out).mono ?_
  rintro e W5 ⟨v2, rfl, row2, b5⟩
  obtain ⟨A4, c4, rfl, -, s2⟩ := FactsS.of row2
  have B5 := Lib.hid (B4.out.trans (b5.mono B4.out.size))
  have hsf := HSF.out W5 A3 c3 A4 c4 (S1.out.keep b5) s2
  clear row2 s2 b5 HF2 HSF S1 B4
  rw [Hfa.out] at hsf
  go_wp2_with fail
  refine hsf.mono ?_
  rintro e W6 ⟨rfl, b6⟩
  have B6 := Lib.hid (B5.out.trans (b6.mono B5.out.size))
  clear hsf b6 B5
  go_wp2_with fail
  go_ret
  exact ⟨rfl, B6.out⟩
set_option maxRecDepth 100000 in
set_option maxHeartbeats 1000000 in
theorem same_all (p b r d : Nat) (fs gs : List OkF) (w : World) (hK : Konst w) (hS : SetAt w p b (fs.map entF)) (hT : SetAt w r d (gs.map entF)) (gS : Good (fs.map entF)) (gT : Good (gs.map entF)) (hid : idsE (fs.map entF) = idsE (gs.map entF)) (hfa : eqL (fs.map (·.1)) (gs.map (·.1)) = true) :
    Calls Tryd.prog 18 #[.pointer (some ⟨p, 0, none⟩), .pointer (some ⟨r, 0, none⟩)] w fun e W' => e = .returned (.bool true) ∧ Below w.heap.size w W' := by
  have hlS : fs.length ≤ 4000 := by have := gS.2.2; rwa [List.length_map] at this
  have hlT : gs.length ≤ 4000 := by have := gT.2.2; rwa [List.length_map] at this
  have hiS : (idsE (fs.map entF)).length ≤ 1000000 := by unfold idsE; rw [List.length_map, List.length_map]; omega
  have PS := fun (W : World) (h : Below w.heap.size w W) => (Or.inr ⟨p, b, rfl, hS.below h, gS⟩ : SetP W (some ⟨p, 0, none⟩) (fs.map entF))
  have PT := fun (W : World) (h : Below w.heap.size w W) => (Or.inr ⟨r, d, rfl, hT.below h, gT⟩ : SetP W (some ⟨r, 0, none⟩) (gs.map entF))
  have HI1 := Lib.hid (fun (W : World) (h : Below w.heap.size w W) => IDs_calls _ _ W (PS W h))
  have HI2 := Lib.hid (fun (W : World) (h : Below w.heap.size w W) => IDs_calls _ _ W (PT W h))
  rw [show (fs.map entF).map (·.1) = idsE (fs.map entF) from rfl] at HI1
  rw [show (gs.map entF).map (·.1) = idsE (gs.map entF) from rfl] at HI2
  have HSS := Lib.hid (fun (W : World) A ca B cb (hA : Strs W A (idsE (fs.map entF))) (hB : Strs W B (idsE (gs.map entF))) => same_any (idsE (fs.map entF)) (idsE (gs.map entF)) A B ca cb W hA hB hiS)
  have HF1 := Lib.hid (fun (W : World) (h : Below w.heap.size w W) => Facts_calls _ fs W (PS W h))
  have HF2 := Lib.hid (fun (W : World) (h : Below w.heap.size w W) => Facts_calls _ gs W (PT W h))
  have HSF := Lib.hid (fun (W : World) A ca B cb (hA : FactsS W A (fs.map (·.1))) (hB : FactsS W B (gs.map (·.1))) => sameF_any (fs.map (·.1)) (gs.map (·.1)) A B ca cb W hA hB (by rw [List.length_map]; omega))
  rw [List.length_map, List.length_map] at HSF
  have HR1 := Lib.hid (fun (W : World) (h : Below w.heap.size w W) => RootSet p b (fs.map entF) W (hK.keep h) (hS.below h) gS)
  have HR2 := Lib.hid (fun (W : World) (h : Below w.heap.size w W) => RootSet r d (gs.map entF) W (hK.keep h) (hT.below h) gT)
  rw [← hid] at HR2
  have HL1 := Lib.hid (fun (W : World) (h : Below w.heap.size w W) => Len_calls p b (fs.map entF) W (hS.below h))
  have HL2 := Lib.hid (fun (W : World) (h : Below w.heap.size w W) => Len_calls r d (gs.map entF) W (hT.below h))
  have hll : (gs.map entF).length = (fs.map entF).length := by
    have := congrArg List.length hid
    simp only [idsE, List.length_map] at this ⊢
    omega
  rw [hll] at HL2
  clear hll
  generalize (⟨(rootF shaF (idsE (fs.map entF))).toArray⟩ : ByteArray) = R at *
  generalize (fs.map entF).length = n at *
  clear PS PT hS hT gS gT hK hlS hlT hiS
  have hde := decide_eq_true hid
  have Hfa := Lib.hid hfa
  clear hid hfa
  generalize idsE (fs.map entF) = I at *
  generalize idsE (gs.map entF) = J at *
  go_enter Tryd.func18, Tryd.ntmps18
  go_wp2_with fail
  refine (HI1.out w (Below.refl _ _)).mono ?_
  rintro e W1 ⟨v1, rfl, row1, b1⟩
  obtain ⟨A1, c1, rfl, -, s1⟩ := RowS.slice row1
  have B1 := Lib.hid b1
  have S1 := Lib.hid s1
  clear row1 s1 b1 HI1
  go_wp2_with fail
  refine (HI2.out W1 B1.out).mono ?_
  rintro e W2 ⟨v2, rfl, row2, b2⟩
  obtain ⟨A2, c2, rfl, -, s2⟩ := RowS.slice row2
  have B2 := Lib.hid (B1.out.trans (b2.mono B1.out.size))
  have hss := HSS.out W2 A1 c1 A2 c2 (S1.out.keep b2) s2
  clear row2 s2 b2 HI2 HSS S1 B1
  rw [hde] at hss
  go_wp2_with fail
  refine hss.mono ?_
  rintro e W3 ⟨rfl, b3⟩
  have B3 := Lib.hid (B2.out.trans (b3.mono B2.out.size))
  clear hss b3 B2
  go_wp2_with fail
  refine (HF1.out W3 B3.out).mono ?_
  rintro e W4 ⟨v1, rfl, row1, b4⟩
  obtain ⟨A3, c3, rfl, -, s1⟩ := FactsS.of row1
  have B4 := Lib.hid (B3.out.trans (b4.mono B3.out.size))
  have S1 := Lib.hid s1
  clear row1 s1 b4 HF1 B3
  go_wp2_with fail
  refine (HF2.out W4 B4.out).mono ?_
  rintro e W5 ⟨v2, rfl, row2, b5⟩
  obtain ⟨A4, c4, rfl, -, s2⟩ := FactsS.of row2
  have B5 := Lib.hid (B4.out.trans (b5.mono B4.out.size))
  have hsf := HSF.out W5 A3 c3 A4 c4 (S1.out.keep b5) s2
  clear row2 s2 b5 HF2 HSF S1 B4
  rw [Hfa.out] at hsf
  go_wp2_with fail
  refine hsf.mono ?_
  rintro e W6 ⟨rfl, b6⟩
  have B6 := Lib.hid (B5.out.trans (b6.mono B5.out.size))
  clear hsf b6 B5
  go_wp2_with fail
  refine (HR1.out W6 B6.out).mono ?_
  rintro e W7 ⟨rfl, b7⟩
  have B7 := Lib.hid (B6.out.trans (b7.mono B6.out.size))
  clear b7 B6 HR1
  go_wp2_with fail
  refine (HR2.out W7 B7.out).mono ?_
  rintro e W8 ⟨rfl, b8⟩
  have B8 := Lib.hid (B7.out.trans (b8.mono B7.out.size))
  clear b8 B7 HR2
  go_wp2_with fail
  refine (HL1.out W8 B8.out).mono ?_
  rintro e W9 ⟨rfl, rfl⟩
  go_wp2_with fail
  refine (HL2.out _ B8.out).mono ?_
  rintro e W9 ⟨rfl, rfl⟩
  go_wp2_with fail
  go_ret
  exact ⟨rfl, B8.out⟩
theorem same_calls (p b r d : Nat) (fs gs : List OkF) (w : World) (hK : Konst w) (hS : SetAt w p b (fs.map entF)) (hT : SetAt w r d (gs.map entF)) (gS : Good (fs.map entF)) (gT : Good (gs.map entF)) :
    Calls Tryd.prog 18 #[.pointer (some ⟨p, 0, none⟩), .pointer (some ⟨r, 0, none⟩)] w fun e W' => e = .returned (.bool (sameB fs gs)) ∧ Below w.heap.size w W' := by
  unfold sameB
  by_cases hid : idsE (fs.map entF) = idsE (gs.map entF)
  · rw [decide_eq_true hid, Bool.true_and]
    cases hfa : eqL (fs.map (·.1)) (gs.map (·.1)) with
    | false => exact same_facts p b r d fs gs w hK hS hT gS gT hid hfa
    | true => exact same_all p b r d fs gs w hK hS hT gS gT hid hfa
  · rw [decide_eq_false hid, Bool.false_and]
    exact same_ids p b r d fs gs w hK hS hT gS gT hid
/-- The answer for two sets as they are held. -/
theorem same_sets (p b r d : Nat) (es ts : List Ent) (w : World) (hK : Konst w) (hS : SetAt w p b es) (hT : SetAt w r d ts) (gS : Good es) (gT : Good ts) :
    Calls Tryd.prog 18 #[.pointer (some ⟨p, 0, none⟩), .pointer (some ⟨r, 0, none⟩)] w fun e W' => ∃ c : Bool, e = .returned (.bool c) ∧ (es = ts → c = true) ∧ Below w.heap.size w W' := by
  obtain ⟨fs, rfl⟩ := facts_list gS.2.1
  obtain ⟨gs, rfl⟩ := facts_list gT.2.1
  refine (same_calls p b r d fs gs w hK hS hT gS gT).mono fun e W' ⟨he, hb⟩ => ⟨_, he, fun h => ?_, hb⟩
  unfold sameB
  rw [h, decide_eq_true rfl, Bool.true_and, eqL_iff]
  have h2 := congrArg (List.map Prod.snd) h
  rw [List.map_map, List.map_map] at h2
  rw [List.map_map, List.map_map]
  exact h2
end Go.Proofs.YtmhphmolbjjopaaDoor
