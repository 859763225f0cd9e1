/- The walk of AmountMulDivMatchesReference: for all integers it returns true, and nothing that was there has changed. -/
import Derived.Test.YtediphiebamffaaHelp
namespace Go.Proofs.Ytediphiebamffaa
open Go.RowKit

/-- What the loop holds: the three rows read as laid, and nothing that was there has changed. -/
structure Rows3 (w0 w : World) (g : Nat) (X : Nat → Int × Int × Int) : Prop where
  row : ∀ i, i < 3 → w.cell? ⟨g, i * 3, none⟩ = some (.int .i64 (X i).1) ∧ w.cell? ⟨g, i * 3 + 1, none⟩ = some (.int .i64 (X i).2.1) ∧ w.cell? ⟨g, i * 3 + 2, none⟩ = some (.int .i64 (X i).2.2)
  bel : Below w0.heap.size w0 w
theorem Rows3.step {w0 w w' : World} {g : Nat} {X : Nat → Int × Int × Int} (h : Rows3 w0 w g X) (b : Below w.heap.size w w') : Rows3 w0 w' g X :=
  ⟨fun i hi => by
    have h1 := h.row i hi
    have hlt := lt_of_cell h1.1
    exact ⟨(b.cell (p := ⟨g, i * 3, none⟩) hlt).trans h1.1, (b.cell (p := ⟨g, i * 3 + 1, none⟩) hlt).trans h1.2.1, (b.cell (p := ⟨g, i * 3 + 2, none⟩) hlt).trans h1.2.2⟩, h.bel.trans (b.mono h.bel.size)⟩
theorem mdV_form (a b c : Int) : ∃ q ok, mdV a b c = .tuple #[.int .i64 q, .bool ok] := by
  unfold mdV
  split
  · exact ⟨_, _, rfl⟩
  · exact ⟨_, _, rfl⟩
set_option maxRecDepth 100000 in
set_option maxHeartbeats 4000000 in
theorem md_walk (a b c : Int) (w : World) (ha : -9223372036854775808 ≤ a) (ha' : a ≤ 9223372036854775807) (hb : -9223372036854775808 ≤ b) (hb' : b ≤ 9223372036854775807) (hc : -9223372036854775808 ≤ c) (hc' : c ≤ 9223372036854775807) :
    Calls Try.prog 3 #[.int .i64 a, .int .i64 b, .int .i64 c] w fun e W' => e = .returned (.bool true) ∧ Below w.heap.size w W' := by
  have p1 := pickF_lt a 4611686018427387903 (by omega)
  have p2 := pickF_lt b 4611686018427387903 (by omega)
  have p3 := pickF_lt c 4611686018427387903 (by omega)
  have p4 := pickF_lt a 1000000000000001 (by omega)
  have p5 := pickF_lt b 1000000000000001 (by omega)
  have p6 := pickF_lt c 10000000 (by omega)
  have p7 := pickF_lt b 1000002 (by omega)
  have H1 := Lib.hid (fun W => pick_calls a 4611686018427387903 W ha ha' (by omega) (by omega))
  have H2 := Lib.hid (fun W => pick_calls b 4611686018427387903 W hb hb' (by omega) (by omega))
  have H3 := Lib.hid (fun W => pick_calls c 4611686018427387903 W hc hc' (by omega) (by omega))
  have H4 := Lib.hid (fun W => pick_calls a 1000000000000001 W ha ha' (by omega) (by omega))
  have H5 := Lib.hid (fun W => pick_calls b 1000000000000001 W hb hb' (by omega) (by omega))
  have H6 := Lib.hid (fun W => pick_calls c 10000000 W hc hc' (by omega) (by omega))
  have H7 := Lib.hid (fun W => pick_calls b 1000002 W hb hb' (by omega) (by omega))
  generalize pickF a 4611686018427387903 = a1 at *
  generalize pickF b 4611686018427387903 = b1 at *
  generalize pickF c 4611686018427387903 = c1 at *
  generalize pickF a 1000000000000001 = a2 at *
  generalize pickF b 1000000000000001 = b2 at *
  generalize pickF c 10000000 = c2 at *
  generalize pickF b 1000002 = p at *
  obtain ⟨X, hX0, hX1, hX2⟩ : ∃ X : Nat → Int × Int × Int, X 0 = (a, b, c) ∧ X 1 = (a1, b1, 1 + c1) ∧ X 2 = (a2, b2, 1 + c2) := ⟨fun i => if i = 0 then (a, b, c) else if i = 1 then (a1, b1, 1 + c1) else (a2, b2, 1 + c2), rfl, rfl, rfl⟩
  have HXb : Hid (∀ i, i < 3 → (X i).1 ≤ 9223372036854775807 ∧ (X i).2.1 ≤ 9223372036854775807 ∧ (X i).2.2 ≤ 9223372036854775807) := Lib.hid (by
    intro i hi
    have h3 : i = 0 ∨ i = 1 ∨ i = 2 := by omega
    rcases h3 with rfl | rfl | rfl
    · rw [hX0]; exact ⟨ha', hb', hc'⟩
    · rw [hX1]; dsimp only; exact ⟨by omega, by omega, by omega⟩
    · rw [hX2]; dsimp only; exact ⟨by omega, by omega, by omega⟩)
  have HX := Lib.hid (And.intro hX0 (And.intro hX1 hX2))
  clear hX0 hX1 hX2 ha ha' hb hb' hc hc'
  go_enter Try.func3, Try.ntmps3
  go_wp2_with fail
  refine (sane_calls _).mono ?_
  rintro e w1 ⟨rfl, bb1⟩
  have A1 : Hld w w1 := Lib.hid bb1
  clear bb1
  go_wp2_with fail
  refine (H1.out _).mono ?_
  rintro e w2 ⟨rfl, rfl⟩
  go_wp2_with fail
  refine (H2.out _).mono ?_
  rintro e w2 ⟨rfl, rfl⟩
  go_wp2_with fail
  refine (H3.out _).mono ?_
  rintro e w2 ⟨rfl, rfl⟩
  go_wp2_with fail
  refine (H4.out _).mono ?_
  rintro e w2 ⟨rfl, rfl⟩
  go_wp2_with fail
  refine (H5.out _).mono ?_
  rintro e w2 ⟨rfl, rfl⟩
  go_wp2_with fail
  refine (H6.out _).mono ?_
  rintro e w2 ⟨rfl, rfl⟩
  go_wp2_with fail
  have hw2 := heap_alloc_new w1 (.cells #[.int .i64 a, .int .i64 b, .int .i64 c, .int .i64 a1, .int .i64 b1, .int .i64 (1 + c1), .int .i64 a2, .int .i64 b2, .int .i64 (1 + c2)] 23)
  have HR0 : Hid (Rows3 w (w1.alloc (.cells #[.int .i64 a, .int .i64 b, .int .i64 c, .int .i64 a1, .int .i64 b1, .int .i64 (1 + c1), .int .i64 a2, .int .i64 b2, .int .i64 (1 + c2)] 23)) w1.heap.size X) := Lib.hid (by
    refine ⟨fun i hi => ?_, (Hid.out A1).alloc A1.size _⟩
    rw [cell_of_row _ _ _ _ _ _ hw2, cell_of_row _ _ _ _ _ _ hw2, cell_of_row _ _ _ _ _ _ hw2]
    have h3 : i = 0 ∨ i = 1 ∨ i = 2 := by omega
    rcases h3 with rfl | rfl | rfl
    · rw [HX.out.1]; exact ⟨rfl, rfl, rfl⟩
    · rw [HX.out.2.1]; exact ⟨rfl, rfl, rfl⟩
    · rw [HX.out.2.2]; exact ⟨rfl, rfl, rfl⟩)
  clear hw2
  generalize hww : w1.alloc (.cells #[.int .i64 a, .int .i64 b, .int .i64 c, .int .i64 a1, .int .i64 b1, .int .i64 (1 + c1), .int .i64 a2, .int .i64 b2, .int .i64 (1 + c2)] 23) = w3 at *
  clear hww
  go_loopw [37] (fun iv wr => ∃ i : Nat, i ≤ 3 ∧ iv = .int .i64 (i : Int) ∧ Hid (Rows3 w wr w1.heap.size X)) (fun iv _ => 3 - (intOf iv).toNat)
  case atStart => exact ⟨0, by omega, rfl, HR0⟩
  case round =>
    clear HR0
    obtain ⟨i, hi, rfl, HR⟩ := hrel
    by_cases hlt : i < 3
    · have hrow := HR.out.row i hlt
      have hxb := HXb.out i hlt
      obtain ⟨x0, hx0⟩ : ∃ x, (X i).1 = x := ⟨_, rfl⟩
      obtain ⟨x1, hx1⟩ : ∃ x, (X i).2.1 = x := ⟨_, rfl⟩
      obtain ⟨x2, hx2⟩ : ∃ x, (X i).2.2 = x := ⟨_, rfl⟩
      rw [hx0, hx1, hx2] at hrow hxb
      have r0 := hrow.1
      have r1 := hrow.2.1
      have r2 := hrow.2.2
      clear hx0 hx1 hx2 hrow
      obtain ⟨q, ok, hm⟩ := mdV_form x0 x1 x2
      have C1 := Lib.hid (fun W => mulDiv_calls x0 x1 x2 W hxb.1 hxb.2.1 hxb.2.2)
      have C2 := Lib.hid (fun W => refMulDiv_calls x0 x1 x2 W hxb.1 hxb.2.1 hxb.2.2)
      rw [hm] at C1 C2
      have C3 := Lib.hid (fun W => own_percent x0 x1 W hxb.1 hxb.2.1)
      have C4 := Lib.hid (fun W => refPercent_calls x0 x1 W hxb.1 hxb.2.1)
      have C5 := Lib.hid (fun W => own_percent x0 p W hxb.1 (by omega))
      have C6 := Lib.hid (fun W => refPercent_calls x0 p W hxb.1 (by omega))
      clear hm hxb
      generalize pcF x0 x1 = P1 at *
      generalize pcF x0 p = P2 at *
      have k0 : (0 : Int) ≤ (i : Int) := by omega
      have k1 : (i : Int) < 3 := by omega
      go_wp2_with fail
      have hblk := heap_alloc_new wr (.cells #[.int .i64 x0, .int .i64 x1, .int .i64 x2] 23)
      have bal : Below wr.heap.size wr (wr.alloc (.cells #[.int .i64 x0, .int .i64 x1, .int .i64 x2] 23)) := (Below.refl _ _).alloc (Nat.le_refl _) _
      have HRa := Lib.hid (HR.out.step bal)
      have d0 : (wr.alloc (.cells #[.int .i64 x0, .int .i64 x1, .int .i64 x2] 23)).cell? ⟨wr.heap.size, 0, none⟩ = some (.int .i64 x0) := by rw [cell_of_row _ _ _ _ _ _ hblk]; rfl
      have d1 : (wr.alloc (.cells #[.int .i64 x0, .int .i64 x1, .int .i64 x2] 23)).cell? ⟨wr.heap.size, 1, none⟩ = some (.int .i64 x1) := by rw [cell_of_row _ _ _ _ _ _ hblk]; rfl
      have d2 : (wr.alloc (.cells #[.int .i64 x0, .int .i64 x1, .int .i64 x2] 23)).cell? ⟨wr.heap.size, 2, none⟩ = some (.int .i64 x2) := by rw [cell_of_row _ _ _ _ _ _ hblk]; rfl
      refine (C1.out _).mono ?_
      rintro e w4 ⟨rfl, b4⟩
      have e0 := (b4.cell (p := ⟨wr.heap.size, 0, none⟩) (lt_of_cell d0)).trans d0
      have e1 := (b4.cell (p := ⟨wr.heap.size, 1, none⟩) (lt_of_cell d1)).trans d1
      have e2 := (b4.cell (p := ⟨wr.heap.size, 2, none⟩) (lt_of_cell d2)).trans d2
      have HR4 := Lib.hid (HRa.out.step b4)
      clear hblk bal HRa d0 d1 d2 b4 r0 r1 r2 HR C1
      go_wp2_with fail
      refine (C2.out _).mono ?_
      rintro e w5 ⟨rfl, rfl⟩
      clear C2
      go_wp2_with fail
      have hkeep : ∀ W', Hld w4 W' → Hld w4 W' ∧ W'.cell? ⟨wr.heap.size, 0, none⟩ = some (.int .i64 x0) ∧ W'.cell? ⟨wr.heap.size, 1, none⟩ = some (.int .i64 x1) := fun W' h =>
        ⟨h, ((Hid.out h).cell (p := ⟨wr.heap.size, 0, none⟩) (lt_of_cell e0)).trans e0, ((Hid.out h).cell (p := ⟨wr.heap.size, 1, none⟩) (lt_of_cell e1)).trans e1⟩
      go_region_held3 (fun w' => Hld w4 w' ∧ w'.cell? ⟨wr.heap.size, 0, none⟩ = some (.int .i64 x0) ∧ w'.cell? ⟨wr.heap.size, 1, none⟩ = some (.int .i64 x1))
        (first
          | exact hkeep _ (Hld.start _)
          | exact hkeep _ hld5
          | exact hkeep _ hld6)
        (first
          | (go_at_call 16; (with_reducible refine (C3.out _).mono ?_); rintro e w5 ⟨rfl, b5⟩; have hld5 := (Hld.start w4).step b5)
          | (go_at_call 17; (with_reducible refine (C4.out _).mono ?_); rintro e w' ⟨rfl, rfl⟩)
          | (go_at_call 13; (with_reducible refine (H7.out _).mono ?_); rintro e w' ⟨rfl, rfl⟩)
          | (go_at_call 16; (with_reducible refine (C5.out _).mono ?_); rintro e w6 ⟨rfl, b6⟩; have hld6 := hld5.step b6)
          | (go_at_call 17; (with_reducible refine (C6.out _).mono ?_); rintro e w' ⟨rfl, rfl⟩))
      all_goals
        have HR6 := Lib.hid (HR4.out.step (Hid.out hld6))
        go_wp2_with fail
        go_roundw
        case rel => exact ⟨i + 1, by omega, by go_num, HR6⟩
        case measure => simp [intOf]; omega
    · have hk3 : i = 3 := by omega
      have k1 : (3 : Int) ≤ (i : Int) := by omega
      clear hk3 hlt
      go_wp2_with fail
      go_ret
      exact ⟨rfl, HR.out.bel⟩
end Go.Proofs.Ytediphiebamffaa
