/- The contract of the laws' Make: a fact of one of the ten kinds. -/
import Derived.Test.YtngkfopdlkddnaaK18
import Derived.Test.YtngkfopdlkddnaaK22
namespace Go.Proofs.Ytngkfopdlkddnaa
open Go Go.RowKit Go.Maps
/-- The numbers of the fact that Make returns, its kind k + 1. -/
def mkL (k : Nat) (q1 q2 q3 q4 q5 : Int) : List Int := match k with
  | 0 => [1, 1 + q2, 1 + q3, 0, q4 * 1000, 1 + q4 % 5, 1 + q1, 1 + q4 % 7, q5, 0, 0, 0, 0, q4 * 100, 0, 0, 0]
  | 1 => [2, 1 + q2, 1 + q3, 0, 0, 0, 1 + q1, 0, 0, 0, 0, 0, 0, 0, 0, 0, 1 + q4 % 3]
  | 2 => [3, 1 + q1, 1 + q3, 0, 0, 0, 0, 1 + q2, 1 + q4 % 255, 1 + q4 % 6, 1 + q4 % 2, q5, q5 + 1 + q4 % 9, 0, q4 * 1000, 0, 0]
  | 3 => [4, 0, 1 + q3, 0, 0, 0, 0, 0, 0, 1 + q1, 0, q5, 0, 0, 0, 0, 0]
  | 4 => [5, 1 + q1, 1 + q3, q5, 0, 0, 0, 0, 1 + q2, 0, 0, 0, 0, q4 * 10000, 0, q4 % 4, 0]
  | 5 => [6, 0, 1 + q3, q5, 0, 1 + q1, 0, 0, 1 + q2, 0, 0, 0, 0, q4 * 1000, 0, q4 % 4, 0]
  | 6 => [7, 0, 1 + q3, q5, 0, 0, 0, 0, 0, 0, 0, 0, 0, 1 + q4 * 1000, 0, 1 + q1, 0]
  | 7 => [8, 1 + q1, 1 + q3, q5, 0, 1 + q2, 0, 0, 0, 0, 0, 0, 0, q4 * 10000, 0, 0, 0]
  | 8 => [9, 0, 1 + q3, 0, 0, 0, 0, 0, 0, 0, 0, q5, 0, 0, 0, 0, 0]
  | _ => [10, 0, 1 + q3, 0, 0, 0, 0, 0, 1 + q1, 0, 0, q5, 0, 0, 0, 0, 1 + q4 % 2]
def mkT (k : Nat) (q4 : Int) : ByteArray := match k with
  | 3 => if q4 % 4 = 0 then ⟨#[]⟩ else if q4 % 4 = 1 then ⟨#[116, 97, 120, 32, 49, 53, 37, 10]⟩ else if q4 % 4 = 2 then ⟨#[112, 97, 115, 115, 32, 50, 48, 37, 32, 116, 111, 32, 51, 10]⟩ else ⟨#[110, 111, 110, 115, 101, 110, 115, 101]⟩
  | 8 => if q4 % 3 = 0 then ⟨#[]⟩ else if q4 % 3 = 1 then ⟨#[104, 111, 108, 100, 32, 105, 102, 32, 97, 99, 99, 111, 117, 110, 116, 32, 115, 116, 114, 101, 97, 109, 115, 32, 62, 32, 51, 10]⟩ else ⟨#[120]⟩
  | _ => ⟨#[]⟩
def mkFa (k : Nat) (q1 q2 q3 q4 q5 : Int) : Fa := (nthI (mkL k q1 q2 q3 q4 q5), mkT k q4)
/-- What Make returns of six numbers. -/
def makeF (x : Nat → Int) : Fa := mkFa (pickF (x 0) 10).toNat (pickF (x 1) 4) (pickF (x 2) 3) (pickF (x 3) 4) (pickF (x 4) 1000) (pickF (x 5) 4)
abbrev cells6 (x : Nat → Int) : Array Value := #[.int .i64 (x 0), .int .i64 (x 1), .int .i64 (x 2), .int .i64 (x 3), .int .i64 (x 4), .int .i64 (x 5)]
def In6 (x : Nat → Int) : Prop := ∀ i, i < 6 → -9223372036854775808 ≤ x i ∧ x i ≤ 9223372036854775807

set_option maxRecDepth 100000 in
set_option maxHeartbeats 4000000 in
theorem make_0 (x : Nat → Int) (q1 q2 q3 q4 q5 : Int) (w : World) (hq : 0 ≤ q1 ∧ q1 < 4 ∧ 0 ≤ q2 ∧ q2 < 3 ∧ 0 ≤ q3 ∧ q3 < 4 ∧ 0 ≤ q4 ∧ q4 < 1000 ∧ 0 ≤ q5 ∧ q5 < 4)
    (P : Int → Int → Int → Prop) (HP : ∀ a n q, P a n q → ∀ W, Calls Try.prog 9 #[.int .i64 a, .int .i64 n] W fun e w' => e = .returned (.int .i64 q) ∧ W = w') (p0 : P (x 0) 10 0) (p1 : P (x 1) 4 q1) (p2 : P (x 2) 3 q2) (p3 : P (x 3) 4 q3) (p4 : P (x 4) 1000 q4) (p5 : P (x 5) 4 q5) :
    Calls Try.prog 13 #[.agg (cells6 x)] w fun e W' => e = .returned (.agg (factC (nthI [1, 1 + q2, 1 + q3, 0, q4 * 1000, 1 + q4 % 5, 1 + q1, 1 + q4 % 7, q5, 0, 0, 0, 0, q4 * 100, 0, 0, 0]) ⟨#[]⟩)) ∧ Below w.heap.size w W' := by
  obtain ⟨h10, h11, h20, h21, h30, h31, h40, h41, h50, h51⟩ := hq
  have H0 := Lib.hid (fun W => HP _ _ _ p0 W)
  have H1 := Lib.hid (fun W => HP _ _ _ p1 W)
  have H2 := Lib.hid (fun W => HP _ _ _ p2 W)
  have H3 := Lib.hid (fun W => HP _ _ _ p3 W)
  have H4 := Lib.hid (fun W => HP _ _ _ p4 W)
  have H5 := Lib.hid (fun W => HP _ _ _ p5 W)
  clear HP p0 p1 p2 p3 p4 p5
  go_enter Try.func13, Try.ntmps13
  go_upto_region 1 with (fail)
  obtain ⟨W0, hW0, f0, f1, b0⟩ := two_rows w (cells6 x) (factC (fun _ => 0) ⟨#[]⟩) 37 29
  rw [hW0]
  clear hW0
  have x0 : W0.cell? ⟨w.heap.size, 0, none⟩ = some (.int .i64 (x 0)) := by rw [cell_of_row _ _ _ _ _ _ f0]; rfl
  have x1 : W0.cell? ⟨w.heap.size, 1, none⟩ = some (.int .i64 (x 1)) := by rw [cell_of_row _ _ _ _ _ _ f0]; rfl
  have x2 : W0.cell? ⟨w.heap.size, 2, none⟩ = some (.int .i64 (x 2)) := by rw [cell_of_row _ _ _ _ _ _ f0]; rfl
  have x3 : W0.cell? ⟨w.heap.size, 3, none⟩ = some (.int .i64 (x 3)) := by rw [cell_of_row _ _ _ _ _ _ f0]; rfl
  have x4 : W0.cell? ⟨w.heap.size, 4, none⟩ = some (.int .i64 (x 4)) := by rw [cell_of_row _ _ _ _ _ _ f0]; rfl
  have x5 : W0.cell? ⟨w.heap.size, 5, none⟩ = some (.int .i64 (x 5)) := by rw [cell_of_row _ _ _ _ _ _ f0]; rfl
  have F1 := Lib.hid f1
  have B0 := Lib.hid b0
  clear f0 f1 b0
  go_wp2_with fail
  refine (H1.out _).mono ?_
  rintro e w' ⟨rfl, rfl⟩
  go_wp2_with fail
  refine (H2.out _).mono ?_
  rintro e w' ⟨rfl, rfl⟩
  go_wp2_with fail
  refine (H3.out _).mono ?_
  rintro e w' ⟨rfl, rfl⟩
  go_wp2_with fail
  refine (H4.out _).mono ?_
  rintro e w' ⟨rfl, rfl⟩
  go_wp2_with fail
  refine (H5.out _).mono ?_
  rintro e w' ⟨rfl, rfl⟩
  go_wp2_with fail
  refine (H0.out _).mono ?_
  rintro e w' ⟨rfl, rfl⟩
  clear x0 x1 x2 x3 x4 x5 H0 H1 H2 H3 H4 H5
  have hone := factC_one (nthI [1, 1 + q2, 1 + q3, 0, q4 * 1000, 1 + q4 % 5, 1 + q1, 1 + q4 % 7, q5, 0, 0, 0, 0, q4 * 100, 0, 0, 0]) ⟨#[]⟩
  go_wp2_with (refine wpList_store_row rfl 29 _ _ rfl (w.heap.size + 1) (factC (nthI [1, 1 + q2, 1 + q3, 0, q4 * 1000, 1 + q4 % 5, 1 + q1, 1 + q4 % 7, q5, 0, 0, 0, 0, q4 * 100, 0, 0, 0]) ⟨#[]⟩) rfl rfl 29 _ F1.out (hiC _ _) rfl hone ?_)
  refine bodyPost_ret (v := .agg (factC (nthI [1, 1 + q2, 1 + q3, 0, q4 * 1000, 1 + q4 % 5, 1 + q1, 1 + q4 % 7, q5, 0, 0, 0, 0, q4 * 100, 0, 0, 0]) ⟨#[]⟩)) ?_ rfl ?_
  · exact results_cell_row rfl _ _ (w.heap.size + 1) 29 _ (0, 0) _ rfl (setRow_heap _ (w.heap.size + 1) _ _ 29 (0, 0) F1.out) Try.underlying29 rfl (hiC _ _)
  · exact ⟨rfl, below_setRow' B0.out _ _ (by omega)⟩
set_option maxRecDepth 100000 in
set_option maxHeartbeats 4000000 in
theorem make_1 (x : Nat → Int) (q1 q2 q3 q4 q5 : Int) (w : World) (hq : 0 ≤ q1 ∧ q1 < 4 ∧ 0 ≤ q2 ∧ q2 < 3 ∧ 0 ≤ q3 ∧ q3 < 4 ∧ 0 ≤ q4 ∧ q4 < 1000 ∧ 0 ≤ q5 ∧ q5 < 4)
    (P : Int → Int → Int → Prop) (HP : ∀ a n q, P a n q → ∀ W, Calls Try.prog 9 #[.int .i64 a, .int .i64 n] W fun e w' => e = .returned (.int .i64 q) ∧ W = w') (p0 : P (x 0) 10 1) (p1 : P (x 1) 4 q1) (p2 : P (x 2) 3 q2) (p3 : P (x 3) 4 q3) (p4 : P (x 4) 1000 q4) (p5 : P (x 5) 4 q5) :
    Calls Try.prog 13 #[.agg (cells6 x)] w fun e W' => e = .returned (.agg (factC (nthI [2, 1 + q2, 1 + q3, 0, 0, 0, 1 + q1, 0, 0, 0, 0, 0, 0, 0, 0, 0, 1 + q4 % 3]) ⟨#[]⟩)) ∧ Below w.heap.size w W' := by
  obtain ⟨h10, h11, h20, h21, h30, h31, h40, h41, h50, h51⟩ := hq
  have H0 := Lib.hid (fun W => HP _ _ _ p0 W)
  have H1 := Lib.hid (fun W => HP _ _ _ p1 W)
  have H2 := Lib.hid (fun W => HP _ _ _ p2 W)
  have H3 := Lib.hid (fun W => HP _ _ _ p3 W)
  have H4 := Lib.hid (fun W => HP _ _ _ p4 W)
  have H5 := Lib.hid (fun W => HP _ _ _ p5 W)
  clear HP p0 p1 p2 p3 p4 p5
  go_enter Try.func13, Try.ntmps13
  go_upto_region 1 with (fail)
  obtain ⟨W0, hW0, f0, f1, b0⟩ := two_rows w (cells6 x) (factC (fun _ => 0) ⟨#[]⟩) 37 29
  rw [hW0]
  clear hW0
  have x0 : W0.cell? ⟨w.heap.size, 0, none⟩ = some (.int .i64 (x 0)) := by rw [cell_of_row _ _ _ _ _ _ f0]; rfl
  have x1 : W0.cell? ⟨w.heap.size, 1, none⟩ = some (.int .i64 (x 1)) := by rw [cell_of_row _ _ _ _ _ _ f0]; rfl
  have x2 : W0.cell? ⟨w.heap.size, 2, none⟩ = some (.int .i64 (x 2)) := by rw [cell_of_row _ _ _ _ _ _ f0]; rfl
  have x3 : W0.cell? ⟨w.heap.size, 3, none⟩ = some (.int .i64 (x 3)) := by rw [cell_of_row _ _ _ _ _ _ f0]; rfl
  have x4 : W0.cell? ⟨w.heap.size, 4, none⟩ = some (.int .i64 (x 4)) := by rw [cell_of_row _ _ _ _ _ _ f0]; rfl
  have x5 : W0.cell? ⟨w.heap.size, 5, none⟩ = some (.int .i64 (x 5)) := by rw [cell_of_row _ _ _ _ _ _ f0]; rfl
  have F1 := Lib.hid f1
  have B0 := Lib.hid b0
  clear f0 f1 b0
  go_wp2_with fail
  refine (H1.out _).mono ?_
  rintro e w' ⟨rfl, rfl⟩
  go_wp2_with fail
  refine (H2.out _).mono ?_
  rintro e w' ⟨rfl, rfl⟩
  go_wp2_with fail
  refine (H3.out _).mono ?_
  rintro e w' ⟨rfl, rfl⟩
  go_wp2_with fail
  refine (H4.out _).mono ?_
  rintro e w' ⟨rfl, rfl⟩
  go_wp2_with fail
  refine (H5.out _).mono ?_
  rintro e w' ⟨rfl, rfl⟩
  go_wp2_with fail
  refine (H0.out _).mono ?_
  rintro e w' ⟨rfl, rfl⟩
  clear x0 x1 x2 x3 x4 x5 H0 H1 H2 H3 H4 H5
  have hone := factC_one (nthI [2, 1 + q2, 1 + q3, 0, 0, 0, 1 + q1, 0, 0, 0, 0, 0, 0, 0, 0, 0, 1 + q4 % 3]) ⟨#[]⟩
  go_wp2_with (refine wpList_store_row rfl 29 _ _ rfl (w.heap.size + 1) (factC (nthI [2, 1 + q2, 1 + q3, 0, 0, 0, 1 + q1, 0, 0, 0, 0, 0, 0, 0, 0, 0, 1 + q4 % 3]) ⟨#[]⟩) rfl rfl 29 _ F1.out (hiC _ _) rfl hone ?_)
  refine bodyPost_ret (v := .agg (factC (nthI [2, 1 + q2, 1 + q3, 0, 0, 0, 1 + q1, 0, 0, 0, 0, 0, 0, 0, 0, 0, 1 + q4 % 3]) ⟨#[]⟩)) ?_ rfl ?_
  · exact results_cell_row rfl _ _ (w.heap.size + 1) 29 _ (0, 0) _ rfl (setRow_heap _ (w.heap.size + 1) _ _ 29 (0, 0) F1.out) Try.underlying29 rfl (hiC _ _)
  · exact ⟨rfl, below_setRow' B0.out _ _ (by omega)⟩
set_option maxRecDepth 100000 in
set_option maxHeartbeats 4000000 in
theorem make_2 (x : Nat → Int) (q1 q2 q3 q4 q5 : Int) (w : World) (hq : 0 ≤ q1 ∧ q1 < 4 ∧ 0 ≤ q2 ∧ q2 < 3 ∧ 0 ≤ q3 ∧ q3 < 4 ∧ 0 ≤ q4 ∧ q4 < 1000 ∧ 0 ≤ q5 ∧ q5 < 4)
    (P : Int → Int → Int → Prop) (HP : ∀ a n q, P a n q → ∀ W, Calls Try.prog 9 #[.int .i64 a, .int .i64 n] W fun e w' => e = .returned (.int .i64 q) ∧ W = w') (p0 : P (x 0) 10 2) (p1 : P (x 1) 4 q1) (p2 : P (x 2) 3 q2) (p3 : P (x 3) 4 q3) (p4 : P (x 4) 1000 q4) (p5 : P (x 5) 4 q5) :
    Calls Try.prog 13 #[.agg (cells6 x)] w fun e W' => e = .returned (.agg (factC (nthI [3, 1 + q1, 1 + q3, 0, 0, 0, 0, 1 + q2, 1 + q4 % 255, 1 + q4 % 6, 1 + q4 % 2, q5, q5 + 1 + q4 % 9, 0, q4 * 1000, 0, 0]) ⟨#[]⟩)) ∧ Below w.heap.size w W' := by
  obtain ⟨h10, h11, h20, h21, h30, h31, h40, h41, h50, h51⟩ := hq
  have H0 := Lib.hid (fun W => HP _ _ _ p0 W)
  have H1 := Lib.hid (fun W => HP _ _ _ p1 W)
  have H2 := Lib.hid (fun W => HP _ _ _ p2 W)
  have H3 := Lib.hid (fun W => HP _ _ _ p3 W)
  have H4 := Lib.hid (fun W => HP _ _ _ p4 W)
  have H5 := Lib.hid (fun W => HP _ _ _ p5 W)
  clear HP p0 p1 p2 p3 p4 p5
  go_enter Try.func13, Try.ntmps13
  go_upto_region 1 with (fail)
  obtain ⟨W0, hW0, f0, f1, b0⟩ := two_rows w (cells6 x) (factC (fun _ => 0) ⟨#[]⟩) 37 29
  rw [hW0]
  clear hW0
  have x0 : W0.cell? ⟨w.heap.size, 0, none⟩ = some (.int .i64 (x 0)) := by rw [cell_of_row _ _ _ _ _ _ f0]; rfl
  have x1 : W0.cell? ⟨w.heap.size, 1, none⟩ = some (.int .i64 (x 1)) := by rw [cell_of_row _ _ _ _ _ _ f0]; rfl
  have x2 : W0.cell? ⟨w.heap.size, 2, none⟩ = some (.int .i64 (x 2)) := by rw [cell_of_row _ _ _ _ _ _ f0]; rfl
  have x3 : W0.cell? ⟨w.heap.size, 3, none⟩ = some (.int .i64 (x 3)) := by rw [cell_of_row _ _ _ _ _ _ f0]; rfl
  have x4 : W0.cell? ⟨w.heap.size, 4, none⟩ = some (.int .i64 (x 4)) := by rw [cell_of_row _ _ _ _ _ _ f0]; rfl
  have x5 : W0.cell? ⟨w.heap.size, 5, none⟩ = some (.int .i64 (x 5)) := by rw [cell_of_row _ _ _ _ _ _ f0]; rfl
  have F1 := Lib.hid f1
  have B0 := Lib.hid b0
  clear f0 f1 b0
  go_wp2_with fail
  refine (H1.out _).mono ?_
  rintro e w' ⟨rfl, rfl⟩
  go_wp2_with fail
  refine (H2.out _).mono ?_
  rintro e w' ⟨rfl, rfl⟩
  go_wp2_with fail
  refine (H3.out _).mono ?_
  rintro e w' ⟨rfl, rfl⟩
  go_wp2_with fail
  refine (H4.out _).mono ?_
  rintro e w' ⟨rfl, rfl⟩
  go_wp2_with fail
  refine (H5.out _).mono ?_
  rintro e w' ⟨rfl, rfl⟩
  go_wp2_with fail
  refine (H0.out _).mono ?_
  rintro e w' ⟨rfl, rfl⟩
  clear x0 x1 x2 x3 x4 x5 H0 H1 H2 H3 H4 H5
  have hone := factC_one (nthI [3, 1 + q1, 1 + q3, 0, 0, 0, 0, 1 + q2, 1 + q4 % 255, 1 + q4 % 6, 1 + q4 % 2, q5, q5 + 1 + q4 % 9, 0, q4 * 1000, 0, 0]) ⟨#[]⟩
  go_wp2_with (refine wpList_store_row rfl 29 _ _ rfl (w.heap.size + 1) (factC (nthI [3, 1 + q1, 1 + q3, 0, 0, 0, 0, 1 + q2, 1 + q4 % 255, 1 + q4 % 6, 1 + q4 % 2, q5, q5 + 1 + q4 % 9, 0, q4 * 1000, 0, 0]) ⟨#[]⟩) rfl rfl 29 _ F1.out (hiC _ _) rfl hone ?_)
  refine bodyPost_ret (v := .agg (factC (nthI [3, 1 + q1, 1 + q3, 0, 0, 0, 0, 1 + q2, 1 + q4 % 255, 1 + q4 % 6, 1 + q4 % 2, q5, q5 + 1 + q4 % 9, 0, q4 * 1000, 0, 0]) ⟨#[]⟩)) ?_ rfl ?_
  · exact results_cell_row rfl _ _ (w.heap.size + 1) 29 _ (0, 0) _ rfl (setRow_heap _ (w.heap.size + 1) _ _ 29 (0, 0) F1.out) Try.underlying29 rfl (hiC _ _)
  · exact ⟨rfl, below_setRow' B0.out _ _ (by omega)⟩
set_option maxRecDepth 100000 in
set_option maxHeartbeats 4000000 in
theorem make_3_0 (x : Nat → Int) (q1 q2 q3 q4 q5 : Int) (w : World) (hq : 0 ≤ q1 ∧ q1 < 4 ∧ 0 ≤ q2 ∧ q2 < 3 ∧ 0 ≤ q3 ∧ q3 < 4 ∧ 0 ≤ q4 ∧ q4 < 1000 ∧ 0 ≤ q5 ∧ q5 < 4) (hm : q4 % 4 = 0)
    (P : Int → Int → Int → Prop) (HP : ∀ a n q, P a n q → ∀ W, Calls Try.prog 9 #[.int .i64 a, .int .i64 n] W fun e w' => e = .returned (.int .i64 q) ∧ W = w') (p0 : P (x 0) 10 3) (p1 : P (x 1) 4 q1) (p2 : P (x 2) 3 q2) (p3 : P (x 3) 4 q3) (p4 : P (x 4) 1000 q4) (p5 : P (x 5) 4 q5) :
    Calls Try.prog 13 #[.agg (cells6 x)] w fun e W' => e = .returned (.agg (factC (nthI [4, 0, 1 + q3, 0, 0, 0, 0, 0, 0, 1 + q1, 0, q5, 0, 0, 0, 0, 0]) ⟨#[]⟩)) ∧ Below w.heap.size w W' := by
  obtain ⟨h10, h11, h20, h21, h30, h31, h40, h41, h50, h51⟩ := hq
  have H0 := Lib.hid (fun W => HP _ _ _ p0 W)
  have H1 := Lib.hid (fun W => HP _ _ _ p1 W)
  have H2 := Lib.hid (fun W => HP _ _ _ p2 W)
  have H3 := Lib.hid (fun W => HP _ _ _ p3 W)
  have H4 := Lib.hid (fun W => HP _ _ _ p4 W)
  have H5 := Lib.hid (fun W => HP _ _ _ p5 W)
  clear HP p0 p1 p2 p3 p4 p5
  have hm2 : q4.tmod 4 = 0 := by rw [Int.tmod_eq_emod_of_nonneg h40]; exact hm
  go_enter Try.func13, Try.ntmps13
  go_upto_region 1 with (fail)
  obtain ⟨W0, hW0, f0, f1, b0⟩ := two_rows w (cells6 x) (factC (fun _ => 0) ⟨#[]⟩) 37 29
  rw [hW0]
  clear hW0
  have x0 : W0.cell? ⟨w.heap.size, 0, none⟩ = some (.int .i64 (x 0)) := by rw [cell_of_row _ _ _ _ _ _ f0]; rfl
  have x1 : W0.cell? ⟨w.heap.size, 1, none⟩ = some (.int .i64 (x 1)) := by rw [cell_of_row _ _ _ _ _ _ f0]; rfl
  have x2 : W0.cell? ⟨w.heap.size, 2, none⟩ = some (.int .i64 (x 2)) := by rw [cell_of_row _ _ _ _ _ _ f0]; rfl
  have x3 : W0.cell? ⟨w.heap.size, 3, none⟩ = some (.int .i64 (x 3)) := by rw [cell_of_row _ _ _ _ _ _ f0]; rfl
  have x4 : W0.cell? ⟨w.heap.size, 4, none⟩ = some (.int .i64 (x 4)) := by rw [cell_of_row _ _ _ _ _ _ f0]; rfl
  have x5 : W0.cell? ⟨w.heap.size, 5, none⟩ = some (.int .i64 (x 5)) := by rw [cell_of_row _ _ _ _ _ _ f0]; rfl
  have F1 := Lib.hid f1
  have B0 := Lib.hid b0
  clear f0 f1 b0
  go_wp2_with fail
  refine (H1.out _).mono ?_
  rintro e w' ⟨rfl, rfl⟩
  go_wp2_with fail
  refine (H2.out _).mono ?_
  rintro e w' ⟨rfl, rfl⟩
  go_wp2_with fail
  refine (H3.out _).mono ?_
  rintro e w' ⟨rfl, rfl⟩
  go_wp2_with fail
  refine (H4.out _).mono ?_
  rintro e w' ⟨rfl, rfl⟩
  go_wp2_with fail
  refine (H5.out _).mono ?_
  rintro e w' ⟨rfl, rfl⟩
  go_wp2_with fail
  refine (H0.out _).mono ?_
  rintro e w' ⟨rfl, rfl⟩
  clear x0 x1 x2 x3 x4 x5 H0 H1 H2 H3 H4 H5
  have hone := factC_one (nthI [4, 0, 1 + q3, 0, 0, 0, 0, 0, 0, 1 + q1, 0, q5, 0, 0, 0, 0, 0]) ⟨#[]⟩
  have bS : Below W0.heap.size W0 (W0.alloc (.cells #[.string ⟨#[]⟩, .string ⟨#[116, 97, 120, 32, 49, 53, 37, 10]⟩, .string ⟨#[112, 97, 115, 115, 32, 50, 48, 37, 32, 116, 111, 32, 51, 10]⟩, .string ⟨#[110, 111, 110, 115, 101, 110, 115, 101]⟩] 9)) := (Below.refl _ W0).alloc (Nat.le_refl _) _
  have FS := Lib.hid (Hl.row bS F1.out)
  have BS := Lib.hid (B0.out.trans (Below.mono bS B0.out.size))
  clear bS
  go_wp2_with (refine wpList_store_row rfl 29 _ _ rfl (w.heap.size + 1) (factC (nthI [4, 0, 1 + q3, 0, 0, 0, 0, 0, 0, 1 + q1, 0, q5, 0, 0, 0, 0, 0]) ⟨#[]⟩) rfl rfl 29 _ FS.out (hiC _ _) rfl hone ?_)
  refine bodyPost_ret (v := .agg (factC (nthI [4, 0, 1 + q3, 0, 0, 0, 0, 0, 0, 1 + q1, 0, q5, 0, 0, 0, 0, 0]) ⟨#[]⟩)) ?_ rfl ?_
  · exact results_cell_row rfl _ _ (w.heap.size + 1) 29 _ (0, 0) _ rfl (setRow_heap _ (w.heap.size + 1) _ _ 29 (0, 0) FS.out) Try.underlying29 rfl (hiC _ _)
  · exact ⟨rfl, below_setRow' BS.out _ _ (by omega)⟩
set_option maxRecDepth 100000 in
set_option maxHeartbeats 4000000 in
theorem make_3_1 (x : Nat → Int) (q1 q2 q3 q4 q5 : Int) (w : World) (hq : 0 ≤ q1 ∧ q1 < 4 ∧ 0 ≤ q2 ∧ q2 < 3 ∧ 0 ≤ q3 ∧ q3 < 4 ∧ 0 ≤ q4 ∧ q4 < 1000 ∧ 0 ≤ q5 ∧ q5 < 4) (hm : q4 % 4 = 1)
    (P : Int → Int → Int → Prop) (HP : ∀ a n q, P a n q → ∀ W, Calls Try.prog 9 #[.int .i64 a, .int .i64 n] W fun e w' => e = .returned (.int .i64 q) ∧ W = w') (p0 : P (x 0) 10 3) (p1 : P (x 1) 4 q1) (p2 : P (x 2) 3 q2) (p3 : P (x 3) 4 q3) (p4 : P (x 4) 1000 q4) (p5 : P (x 5) 4 q5) :
    Calls Try.prog 13 #[.agg (cells6 x)] w fun e W' => e = .returned (.agg (factC (nthI [4, 0, 1 + q3, 0, 0, 0, 0, 0, 0, 1 + q1, 0, q5, 0, 0, 0, 0, 0]) ⟨#[116, 97, 120, 32, 49, 53, 37, 10]⟩)) ∧ Below w.heap.size w W' := by
  obtain ⟨h10, h11, h20, h21, h30, h31, h40, h41, h50, h51⟩ := hq
  have H0 := Lib.hid (fun W => HP _ _ _ p0 W)
  have H1 := Lib.hid (fun W => HP _ _ _ p1 W)
  have H2 := Lib.hid (fun W => HP _ _ _ p2 W)
  have H3 := Lib.hid (fun W => HP _ _ _ p3 W)
  have H4 := Lib.hid (fun W => HP _ _ _ p4 W)
  have H5 := Lib.hid (fun W => HP _ _ _ p5 W)
  clear HP p0 p1 p2 p3 p4 p5
  have hm2 : q4.tmod 4 = 1 := by rw [Int.tmod_eq_emod_of_nonneg h40]; exact hm
  go_enter Try.func13, Try.ntmps13
  go_upto_region 1 with (fail)
  obtain ⟨W0, hW0, f0, f1, b0⟩ := two_rows w (cells6 x) (factC (fun _ => 0) ⟨#[]⟩) 37 29
  rw [hW0]
  clear hW0
  have x0 : W0.cell? ⟨w.heap.size, 0, none⟩ = some (.int .i64 (x 0)) := by rw [cell_of_row _ _ _ _ _ _ f0]; rfl
  have x1 : W0.cell? ⟨w.heap.size, 1, none⟩ = some (.int .i64 (x 1)) := by rw [cell_of_row _ _ _ _ _ _ f0]; rfl
  have x2 : W0.cell? ⟨w.heap.size, 2, none⟩ = some (.int .i64 (x 2)) := by rw [cell_of_row _ _ _ _ _ _ f0]; rfl
  have x3 : W0.cell? ⟨w.heap.size, 3, none⟩ = some (.int .i64 (x 3)) := by rw [cell_of_row _ _ _ _ _ _ f0]; rfl
  have x4 : W0.cell? ⟨w.heap.size, 4, none⟩ = some (.int .i64 (x 4)) := by rw [cell_of_row _ _ _ _ _ _ f0]; rfl
  have x5 : W0.cell? ⟨w.heap.size, 5, none⟩ = some (.int .i64 (x 5)) := by rw [cell_of_row _ _ _ _ _ _ f0]; rfl
  have F1 := Lib.hid f1
  have B0 := Lib.hid b0
  clear f0 f1 b0
  go_wp2_with fail
  refine (H1.out _).mono ?_
  rintro e w' ⟨rfl, rfl⟩
  go_wp2_with fail
  refine (H2.out _).mono ?_
  rintro e w' ⟨rfl, rfl⟩
  go_wp2_with fail
  refine (H3.out _).mono ?_
  rintro e w' ⟨rfl, rfl⟩
  go_wp2_with fail
  refine (H4.out _).mono ?_
  rintro e w' ⟨rfl, rfl⟩
  go_wp2_with fail
  refine (H5.out _).mono ?_
  rintro e w' ⟨rfl, rfl⟩
  go_wp2_with fail
  refine (H0.out _).mono ?_
  rintro e w' ⟨rfl, rfl⟩
  clear x0 x1 x2 x3 x4 x5 H0 H1 H2 H3 H4 H5
  have hone := factC_one (nthI [4, 0, 1 + q3, 0, 0, 0, 0, 0, 0, 1 + q1, 0, q5, 0, 0, 0, 0, 0]) ⟨#[116, 97, 120, 32, 49, 53, 37, 10]⟩
  have bS : Below W0.heap.size W0 (W0.alloc (.cells #[.string ⟨#[]⟩, .string ⟨#[116, 97, 120, 32, 49, 53, 37, 10]⟩, .string ⟨#[112, 97, 115, 115, 32, 50, 48, 37, 32, 116, 111, 32, 51, 10]⟩, .string ⟨#[110, 111, 110, 115, 101, 110, 115, 101]⟩] 9)) := (Below.refl _ W0).alloc (Nat.le_refl _) _
  have FS := Lib.hid (Hl.row bS F1.out)
  have BS := Lib.hid (B0.out.trans (Below.mono bS B0.out.size))
  clear bS
  go_wp2_with (refine wpList_store_row rfl 29 _ _ rfl (w.heap.size + 1) (factC (nthI [4, 0, 1 + q3, 0, 0, 0, 0, 0, 0, 1 + q1, 0, q5, 0, 0, 0, 0, 0]) ⟨#[116, 97, 120, 32, 49, 53, 37, 10]⟩) rfl rfl 29 _ FS.out (hiC _ _) rfl hone ?_)
  refine bodyPost_ret (v := .agg (factC (nthI [4, 0, 1 + q3, 0, 0, 0, 0, 0, 0, 1 + q1, 0, q5, 0, 0, 0, 0, 0]) ⟨#[116, 97, 120, 32, 49, 53, 37, 10]⟩)) ?_ rfl ?_
  · exact results_cell_row rfl _ _ (w.heap.size + 1) 29 _ (0, 0) _ rfl (setRow_heap _ (w.heap.size + 1) _ _ 29 (0, 0) FS.out) Try.underlying29 rfl (hiC _ _)
  · exact ⟨rfl, below_setRow' BS.out _ _ (by omega)⟩
set_option maxRecDepth 100000 in
set_option maxHeartbeats 4000000 in
theorem make_3_2 (x : Nat → Int) (q1 q2 q3 q4 q5 : Int) (w : World) (hq : 0 ≤ q1 ∧ q1 < 4 ∧ 0 ≤ q2 ∧ q2 < 3 ∧ 0 ≤ q3 ∧ q3 < 4 ∧ 0 ≤ q4 ∧ q4 < 1000 ∧ 0 ≤ q5 ∧ q5 < 4) (hm : q4 % 4 = 2)
    (P : Int → Int → Int → Prop) (HP : ∀ a n q, P a n q → ∀ W, Calls Try.prog 9 #[.int .i64 a, .int .i64 n] W fun e w' => e = .returned (.int .i64 q) ∧ W = w') (p0 : P (x 0) 10 3) (p1 : P (x 1) 4 q1) (p2 : P (x 2) 3 q2) (p3 : P (x 3) 4 q3) (p4 : P (x 4) 1000 q4) (p5 : P (x 5) 4 q5) :
    Calls Try.prog 13 #[.agg (cells6 x)] w fun e W' => e = .returned (.agg (factC (nthI [4, 0, 1 + q3, 0, 0, 0, 0, 0, 0, 1 + q1, 0, q5, 0, 0, 0, 0, 0]) ⟨#[112, 97, 115, 115, 32, 50, 48, 37, 32, 116, 111, 32, 51, 10]⟩)) ∧ Below w.heap.size w W' := by
  obtain ⟨h10, h11, h20, h21, h30, h31, h40, h41, h50, h51⟩ := hq
  have H0 := Lib.hid (fun W => HP _ _ _ p0 W)
  have H1 := Lib.hid (fun W => HP _ _ _ p1 W)
  have H2 := Lib.hid (fun W => HP _ _ _ p2 W)
  have H3 := Lib.hid (fun W => HP _ _ _ p3 W)
  have H4 := Lib.hid (fun W => HP _ _ _ p4 W)
  have H5 := Lib.hid (fun W => HP _ _ _ p5 W)
  clear HP p0 p1 p2 p3 p4 p5
  have hm2 : q4.tmod 4 = 2 := by rw [Int.tmod_eq_emod_of_nonneg h40]; exact hm
  go_enter Try.func13, Try.ntmps13
  go_upto_region 1 with (fail)
  obtain ⟨W0, hW0, f0, f1, b0⟩ := two_rows w (cells6 x) (factC (fun _ => 0) ⟨#[]⟩) 37 29
  rw [hW0]
  clear hW0
  have x0 : W0.cell? ⟨w.heap.size, 0, none⟩ = some (.int .i64 (x 0)) := by rw [cell_of_row _ _ _ _ _ _ f0]; rfl
  have x1 : W0.cell? ⟨w.heap.size, 1, none⟩ = some (.int .i64 (x 1)) := by rw [cell_of_row _ _ _ _ _ _ f0]; rfl
  have x2 : W0.cell? ⟨w.heap.size, 2, none⟩ = some (.int .i64 (x 2)) := by rw [cell_of_row _ _ _ _ _ _ f0]; rfl
  have x3 : W0.cell? ⟨w.heap.size, 3, none⟩ = some (.int .i64 (x 3)) := by rw [cell_of_row _ _ _ _ _ _ f0]; rfl
  have x4 : W0.cell? ⟨w.heap.size, 4, none⟩ = some (.int .i64 (x 4)) := by rw [cell_of_row _ _ _ _ _ _ f0]; rfl
  have x5 : W0.cell? ⟨w.heap.size, 5, none⟩ = some (.int .i64 (x 5)) := by rw [cell_of_row _ _ _ _ _ _ f0]; rfl
  have F1 := Lib.hid f1
  have B0 := Lib.hid b0
  clear f0 f1 b0
  go_wp2_with fail
  refine (H1.out _).mono ?_
  rintro e w' ⟨rfl, rfl⟩
  go_wp2_with fail
  refine (H2.out _).mono ?_
  rintro e w' ⟨rfl, rfl⟩
  go_wp2_with fail
  refine (H3.out _).mono ?_
  rintro e w' ⟨rfl, rfl⟩
  go_wp2_with fail
  refine (H4.out _).mono ?_
  rintro e w' ⟨rfl, rfl⟩
  go_wp2_with fail
  refine (H5.out _).mono ?_
  rintro e w' ⟨rfl, rfl⟩
  go_wp2_with fail
  refine (H0.out _).mono ?_
  rintro e w' ⟨rfl, rfl⟩
  clear x0 x1 x2 x3 x4 x5 H0 H1 H2 H3 H4 H5
  have hone := factC_one (nthI [4, 0, 1 + q3, 0, 0, 0, 0, 0, 0, 1 + q1, 0, q5, 0, 0, 0, 0, 0]) ⟨#[112, 97, 115, 115, 32, 50, 48, 37, 32, 116, 111, 32, 51, 10]⟩
  have bS : Below W0.heap.size W0 (W0.alloc (.cells #[.string ⟨#[]⟩, .string ⟨#[116, 97, 120, 32, 49, 53, 37, 10]⟩, .string ⟨#[112, 97, 115, 115, 32, 50, 48, 37, 32, 116, 111, 32, 51, 10]⟩, .string ⟨#[110, 111, 110, 115, 101, 110, 115, 101]⟩] 9)) := (Below.refl _ W0).alloc (Nat.le_refl _) _
  have FS := Lib.hid (Hl.row bS F1.out)
  have BS := Lib.hid (B0.out.trans (Below.mono bS B0.out.size))
  clear bS
  go_wp2_with (refine wpList_store_row rfl 29 _ _ rfl (w.heap.size + 1) (factC (nthI [4, 0, 1 + q3, 0, 0, 0, 0, 0, 0, 1 + q1, 0, q5, 0, 0, 0, 0, 0]) ⟨#[112, 97, 115, 115, 32, 50, 48, 37, 32, 116, 111, 32, 51, 10]⟩) rfl rfl 29 _ FS.out (hiC _ _) rfl hone ?_)
  refine bodyPost_ret (v := .agg (factC (nthI [4, 0, 1 + q3, 0, 0, 0, 0, 0, 0, 1 + q1, 0, q5, 0, 0, 0, 0, 0]) ⟨#[112, 97, 115, 115, 32, 50, 48, 37, 32, 116, 111, 32, 51, 10]⟩)) ?_ rfl ?_
  · exact results_cell_row rfl _ _ (w.heap.size + 1) 29 _ (0, 0) _ rfl (setRow_heap _ (w.heap.size + 1) _ _ 29 (0, 0) FS.out) Try.underlying29 rfl (hiC _ _)
  · exact ⟨rfl, below_setRow' BS.out _ _ (by omega)⟩
set_option maxRecDepth 100000 in
set_option maxHeartbeats 4000000 in
theorem make_3_3 (x : Nat → Int) (q1 q2 q3 q4 q5 : Int) (w : World) (hq : 0 ≤ q1 ∧ q1 < 4 ∧ 0 ≤ q2 ∧ q2 < 3 ∧ 0 ≤ q3 ∧ q3 < 4 ∧ 0 ≤ q4 ∧ q4 < 1000 ∧ 0 ≤ q5 ∧ q5 < 4) (hm : q4 % 4 = 3)
    (P : Int → Int → Int → Prop) (HP : ∀ a n q, P a n q → ∀ W, Calls Try.prog 9 #[.int .i64 a, .int .i64 n] W fun e w' => e = .returned (.int .i64 q) ∧ W = w') (p0 : P (x 0) 10 3) (p1 : P (x 1) 4 q1) (p2 : P (x 2) 3 q2) (p3 : P (x 3) 4 q3) (p4 : P (x 4) 1000 q4) (p5 : P (x 5) 4 q5) :
    Calls Try.prog 13 #[.agg (cells6 x)] w fun e W' => e = .returned (.agg (factC (nthI [4, 0, 1 + q3, 0, 0, 0, 0, 0, 0, 1 + q1, 0, q5, 0, 0, 0, 0, 0]) ⟨#[110, 111, 110, 115, 101, 110, 115, 101]⟩)) ∧ Below w.heap.size w W' := by
  obtain ⟨h10, h11, h20, h21, h30, h31, h40, h41, h50, h51⟩ := hq
  have H0 := Lib.hid (fun W => HP _ _ _ p0 W)
  have H1 := Lib.hid (fun W => HP _ _ _ p1 W)
  have H2 := Lib.hid (fun W => HP _ _ _ p2 W)
  have H3 := Lib.hid (fun W => HP _ _ _ p3 W)
  have H4 := Lib.hid (fun W => HP _ _ _ p4 W)
  have H5 := Lib.hid (fun W => HP _ _ _ p5 W)
  clear HP p0 p1 p2 p3 p4 p5
  have hm2 : q4.tmod 4 = 3 := by rw [Int.tmod_eq_emod_of_nonneg h40]; exact hm
  go_enter Try.func13, Try.ntmps13
  go_upto_region 1 with (fail)
  obtain ⟨W0, hW0, f0, f1, b0⟩ := two_rows w (cells6 x) (factC (fun _ => 0) ⟨#[]⟩) 37 29
  rw [hW0]
  clear hW0
  have x0 : W0.cell? ⟨w.heap.size, 0, none⟩ = some (.int .i64 (x 0)) := by rw [cell_of_row _ _ _ _ _ _ f0]; rfl
  have x1 : W0.cell? ⟨w.heap.size, 1, none⟩ = some (.int .i64 (x 1)) := by rw [cell_of_row _ _ _ _ _ _ f0]; rfl
  have x2 : W0.cell? ⟨w.heap.size, 2, none⟩ = some (.int .i64 (x 2)) := by rw [cell_of_row _ _ _ _ _ _ f0]; rfl
  have x3 : W0.cell? ⟨w.heap.size, 3, none⟩ = some (.int .i64 (x 3)) := by rw [cell_of_row _ _ _ _ _ _ f0]; rfl
  have x4 : W0.cell? ⟨w.heap.size, 4, none⟩ = some (.int .i64 (x 4)) := by rw [cell_of_row _ _ _ _ _ _ f0]; rfl
  have x5 : W0.cell? ⟨w.heap.size, 5, none⟩ = some (.int .i64 (x 5)) := by rw [cell_of_row _ _ _ _ _ _ f0]; rfl
  have F1 := Lib.hid f1
  have B0 := Lib.hid b0
  clear f0 f1 b0
  go_wp2_with fail
  refine (H1.out _).mono ?_
  rintro e w' ⟨rfl, rfl⟩
  go_wp2_with fail
  refine (H2.out _).mono ?_
  rintro e w' ⟨rfl, rfl⟩
  go_wp2_with fail
  refine (H3.out _).mono ?_
  rintro e w' ⟨rfl, rfl⟩
  go_wp2_with fail
  refine (H4.out _).mono ?_
  rintro e w' ⟨rfl, rfl⟩
  go_wp2_with fail
  refine (H5.out _).mono ?_
  rintro e w' ⟨rfl, rfl⟩
  go_wp2_with fail
  refine (H0.out _).mono ?_
  rintro e w' ⟨rfl, rfl⟩
  clear x0 x1 x2 x3 x4 x5 H0 H1 H2 H3 H4 H5
  have hone := factC_one (nthI [4, 0, 1 + q3, 0, 0, 0, 0, 0, 0, 1 + q1, 0, q5, 0, 0, 0, 0, 0]) ⟨#[110, 111, 110, 115, 101, 110, 115, 101]⟩
  have bS : Below W0.heap.size W0 (W0.alloc (.cells #[.string ⟨#[]⟩, .string ⟨#[116, 97, 120, 32, 49, 53, 37, 10]⟩, .string ⟨#[112, 97, 115, 115, 32, 50, 48, 37, 32, 116, 111, 32, 51, 10]⟩, .string ⟨#[110, 111, 110, 115, 101, 110, 115, 101]⟩] 9)) := (Below.refl _ W0).alloc (Nat.le_refl _) _
  have FS := Lib.hid (Hl.row bS F1.out)
  have BS := Lib.hid (B0.out.trans (Below.mono bS B0.out.size))
  clear bS
  go_wp2_with (refine wpList_store_row rfl 29 _ _ rfl (w.heap.size + 1) (factC (nthI [4, 0, 1 + q3, 0, 0, 0, 0, 0, 0, 1 + q1, 0, q5, 0, 0, 0, 0, 0]) ⟨#[110, 111, 110, 115, 101, 110, 115, 101]⟩) rfl rfl 29 _ FS.out (hiC _ _) rfl hone ?_)
  refine bodyPost_ret (v := .agg (factC (nthI [4, 0, 1 + q3, 0, 0, 0, 0, 0, 0, 1 + q1, 0, q5, 0, 0, 0, 0, 0]) ⟨#[110, 111, 110, 115, 101, 110, 115, 101]⟩)) ?_ rfl ?_
  · exact results_cell_row rfl _ _ (w.heap.size + 1) 29 _ (0, 0) _ rfl (setRow_heap _ (w.heap.size + 1) _ _ 29 (0, 0) FS.out) Try.underlying29 rfl (hiC _ _)
  · exact ⟨rfl, below_setRow' BS.out _ _ (by omega)⟩
set_option maxRecDepth 100000 in
set_option maxHeartbeats 4000000 in
theorem make_4 (x : Nat → Int) (q1 q2 q3 q4 q5 : Int) (w : World) (hq : 0 ≤ q1 ∧ q1 < 4 ∧ 0 ≤ q2 ∧ q2 < 3 ∧ 0 ≤ q3 ∧ q3 < 4 ∧ 0 ≤ q4 ∧ q4 < 1000 ∧ 0 ≤ q5 ∧ q5 < 4)
    (P : Int → Int → Int → Prop) (HP : ∀ a n q, P a n q → ∀ W, Calls Try.prog 9 #[.int .i64 a, .int .i64 n] W fun e w' => e = .returned (.int .i64 q) ∧ W = w') (p0 : P (x 0) 10 4) (p1 : P (x 1) 4 q1) (p2 : P (x 2) 3 q2) (p3 : P (x 3) 4 q3) (p4 : P (x 4) 1000 q4) (p5 : P (x 5) 4 q5) :
    Calls Try.prog 13 #[.agg (cells6 x)] w fun e W' => e = .returned (.agg (factC (nthI [5, 1 + q1, 1 + q3, q5, 0, 0, 0, 0, 1 + q2, 0, 0, 0, 0, q4 * 10000, 0, q4 % 4, 0]) ⟨#[]⟩)) ∧ Below w.heap.size w W' := by
  obtain ⟨h10, h11, h20, h21, h30, h31, h40, h41, h50, h51⟩ := hq
  have H0 := Lib.hid (fun W => HP _ _ _ p0 W)
  have H1 := Lib.hid (fun W => HP _ _ _ p1 W)
  have H2 := Lib.hid (fun W => HP _ _ _ p2 W)
  have H3 := Lib.hid (fun W => HP _ _ _ p3 W)
  have H4 := Lib.hid (fun W => HP _ _ _ p4 W)
  have H5 := Lib.hid (fun W => HP _ _ _ p5 W)
  clear HP p0 p1 p2 p3 p4 p5
  go_enter Try.func13, Try.ntmps13
  go_upto_region 1 with (fail)
  obtain ⟨W0, hW0, f0, f1, b0⟩ := two_rows w (cells6 x) (factC (fun _ => 0) ⟨#[]⟩) 37 29
  rw [hW0]
  clear hW0
  have x0 : W0.cell? ⟨w.heap.size, 0, none⟩ = some (.int .i64 (x 0)) := by rw [cell_of_row _ _ _ _ _ _ f0]; rfl
  have x1 : W0.cell? ⟨w.heap.size, 1, none⟩ = some (.int .i64 (x 1)) := by rw [cell_of_row _ _ _ _ _ _ f0]; rfl
  have x2 : W0.cell? ⟨w.heap.size, 2, none⟩ = some (.int .i64 (x 2)) := by rw [cell_of_row _ _ _ _ _ _ f0]; rfl
  have x3 : W0.cell? ⟨w.heap.size, 3, none⟩ = some (.int .i64 (x 3)) := by rw [cell_of_row _ _ _ _ _ _ f0]; rfl
  have x4 : W0.cell? ⟨w.heap.size, 4, none⟩ = some (.int .i64 (x 4)) := by rw [cell_of_row _ _ _ _ _ _ f0]; rfl
  have x5 : W0.cell? ⟨w.heap.size, 5, none⟩ = some (.int .i64 (x 5)) := by rw [cell_of_row _ _ _ _ _ _ f0]; rfl
  have F1 := Lib.hid f1
  have B0 := Lib.hid b0
  clear f0 f1 b0
  go_wp2_with fail
  refine (H1.out _).mono ?_
  rintro e w' ⟨rfl, rfl⟩
  go_wp2_with fail
  refine (H2.out _).mono ?_
  rintro e w' ⟨rfl, rfl⟩
  go_wp2_with fail
  refine (H3.out _).mono ?_
  rintro e w' ⟨rfl, rfl⟩
  go_wp2_with fail
  refine (H4.out _).mono ?_
  rintro e w' ⟨rfl, rfl⟩
  go_wp2_with fail
  refine (H5.out _).mono ?_
  rintro e w' ⟨rfl, rfl⟩
  go_wp2_with fail
  refine (H0.out _).mono ?_
  rintro e w' ⟨rfl, rfl⟩
  clear x0 x1 x2 x3 x4 x5 H0 H1 H2 H3 H4 H5
  have hone := factC_one (nthI [5, 1 + q1, 1 + q3, q5, 0, 0, 0, 0, 1 + q2, 0, 0, 0, 0, q4 * 10000, 0, q4 % 4, 0]) ⟨#[]⟩
  go_wp2_with (refine wpList_store_row rfl 29 _ _ rfl (w.heap.size + 1) (factC (nthI [5, 1 + q1, 1 + q3, q5, 0, 0, 0, 0, 1 + q2, 0, 0, 0, 0, q4 * 10000, 0, q4 % 4, 0]) ⟨#[]⟩) rfl rfl 29 _ F1.out (hiC _ _) rfl hone ?_)
  refine bodyPost_ret (v := .agg (factC (nthI [5, 1 + q1, 1 + q3, q5, 0, 0, 0, 0, 1 + q2, 0, 0, 0, 0, q4 * 10000, 0, q4 % 4, 0]) ⟨#[]⟩)) ?_ rfl ?_
  · exact results_cell_row rfl _ _ (w.heap.size + 1) 29 _ (0, 0) _ rfl (setRow_heap _ (w.heap.size + 1) _ _ 29 (0, 0) F1.out) Try.underlying29 rfl (hiC _ _)
  · exact ⟨rfl, below_setRow' B0.out _ _ (by omega)⟩
set_option maxRecDepth 100000 in
set_option maxHeartbeats 4000000 in
theorem make_5 (x : Nat → Int) (q1 q2 q3 q4 q5 : Int) (w : World) (hq : 0 ≤ q1 ∧ q1 < 4 ∧ 0 ≤ q2 ∧ q2 < 3 ∧ 0 ≤ q3 ∧ q3 < 4 ∧ 0 ≤ q4 ∧ q4 < 1000 ∧ 0 ≤ q5 ∧ q5 < 4)
    (P : Int → Int → Int → Prop) (HP : ∀ a n q, P a n q → ∀ W, Calls Try.prog 9 #[.int .i64 a, .int .i64 n] W fun e w' => e = .returned (.int .i64 q) ∧ W = w') (p0 : P (x 0) 10 5) (p1 : P (x 1) 4 q1) (p2 : P (x 2) 3 q2) (p3 : P (x 3) 4 q3) (p4 : P (x 4) 1000 q4) (p5 : P (x 5) 4 q5) :
    Calls Try.prog 13 #[.agg (cells6 x)] w fun e W' => e = .returned (.agg (factC (nthI [6, 0, 1 + q3, q5, 0, 1 + q1, 0, 0, 1 + q2, 0, 0, 0, 0, q4 * 1000, 0, q4 % 4, 0]) ⟨#[]⟩)) ∧ Below w.heap.size w W' := by
  obtain ⟨h10, h11, h20, h21, h30, h31, h40, h41, h50, h51⟩ := hq
  have H0 := Lib.hid (fun W => HP _ _ _ p0 W)
  have H1 := Lib.hid (fun W => HP _ _ _ p1 W)
  have H2 := Lib.hid (fun W => HP _ _ _ p2 W)
  have H3 := Lib.hid (fun W => HP _ _ _ p3 W)
  have H4 := Lib.hid (fun W => HP _ _ _ p4 W)
  have H5 := Lib.hid (fun W => HP _ _ _ p5 W)
  clear HP p0 p1 p2 p3 p4 p5
  go_enter Try.func13, Try.ntmps13
  go_upto_region 1 with (fail)
  obtain ⟨W0, hW0, f0, f1, b0⟩ := two_rows w (cells6 x) (factC (fun _ => 0) ⟨#[]⟩) 37 29
  rw [hW0]
  clear hW0
  have x0 : W0.cell? ⟨w.heap.size, 0, none⟩ = some (.int .i64 (x 0)) := by rw [cell_of_row _ _ _ _ _ _ f0]; rfl
  have x1 : W0.cell? ⟨w.heap.size, 1, none⟩ = some (.int .i64 (x 1)) := by rw [cell_of_row _ _ _ _ _ _ f0]; rfl
  have x2 : W0.cell? ⟨w.heap.size, 2, none⟩ = some (.int .i64 (x 2)) := by rw [cell_of_row _ _ _ _ _ _ f0]; rfl
  have x3 : W0.cell? ⟨w.heap.size, 3, none⟩ = some (.int .i64 (x 3)) := by rw [cell_of_row _ _ _ _ _ _ f0]; rfl
  have x4 : W0.cell? ⟨w.heap.size, 4, none⟩ = some (.int .i64 (x 4)) := by rw [cell_of_row _ _ _ _ _ _ f0]; rfl
  have x5 : W0.cell? ⟨w.heap.size, 5, none⟩ = some (.int .i64 (x 5)) := by rw [cell_of_row _ _ _ _ _ _ f0]; rfl
  have F1 := Lib.hid f1
  have B0 := Lib.hid b0
  clear f0 f1 b0
  go_wp2_with fail
  refine (H1.out _).mono ?_
  rintro e w' ⟨rfl, rfl⟩
  go_wp2_with fail
  refine (H2.out _).mono ?_
  rintro e w' ⟨rfl, rfl⟩
  go_wp2_with fail
  refine (H3.out _).mono ?_
  rintro e w' ⟨rfl, rfl⟩
  go_wp2_with fail
  refine (H4.out _).mono ?_
  rintro e w' ⟨rfl, rfl⟩
  go_wp2_with fail
  refine (H5.out _).mono ?_
  rintro e w' ⟨rfl, rfl⟩
  go_wp2_with fail
  refine (H0.out _).mono ?_
  rintro e w' ⟨rfl, rfl⟩
  clear x0 x1 x2 x3 x4 x5 H0 H1 H2 H3 H4 H5
  have hone := factC_one (nthI [6, 0, 1 + q3, q5, 0, 1 + q1, 0, 0, 1 + q2, 0, 0, 0, 0, q4 * 1000, 0, q4 % 4, 0]) ⟨#[]⟩
  go_wp2_with (refine wpList_store_row rfl 29 _ _ rfl (w.heap.size + 1) (factC (nthI [6, 0, 1 + q3, q5, 0, 1 + q1, 0, 0, 1 + q2, 0, 0, 0, 0, q4 * 1000, 0, q4 % 4, 0]) ⟨#[]⟩) rfl rfl 29 _ F1.out (hiC _ _) rfl hone ?_)
  refine bodyPost_ret (v := .agg (factC (nthI [6, 0, 1 + q3, q5, 0, 1 + q1, 0, 0, 1 + q2, 0, 0, 0, 0, q4 * 1000, 0, q4 % 4, 0]) ⟨#[]⟩)) ?_ rfl ?_
  · exact results_cell_row rfl _ _ (w.heap.size + 1) 29 _ (0, 0) _ rfl (setRow_heap _ (w.heap.size + 1) _ _ 29 (0, 0) F1.out) Try.underlying29 rfl (hiC _ _)
  · exact ⟨rfl, below_setRow' B0.out _ _ (by omega)⟩
set_option maxRecDepth 100000 in
set_option maxHeartbeats 4000000 in
theorem make_6 (x : Nat → Int) (q1 q2 q3 q4 q5 : Int) (w : World) (hq : 0 ≤ q1 ∧ q1 < 4 ∧ 0 ≤ q2 ∧ q2 < 3 ∧ 0 ≤ q3 ∧ q3 < 4 ∧ 0 ≤ q4 ∧ q4 < 1000 ∧ 0 ≤ q5 ∧ q5 < 4)
    (P : Int → Int → Int → Prop) (HP : ∀ a n q, P a n q → ∀ W, Calls Try.prog 9 #[.int .i64 a, .int .i64 n] W fun e w' => e = .returned (.int .i64 q) ∧ W = w') (p0 : P (x 0) 10 6) (p1 : P (x 1) 4 q1) (p2 : P (x 2) 3 q2) (p3 : P (x 3) 4 q3) (p4 : P (x 4) 1000 q4) (p5 : P (x 5) 4 q5) :
    Calls Try.prog 13 #[.agg (cells6 x)] w fun e W' => e = .returned (.agg (factC (nthI [7, 0, 1 + q3, q5, 0, 0, 0, 0, 0, 0, 0, 0, 0, 1 + q4 * 1000, 0, 1 + q1, 0]) ⟨#[]⟩)) ∧ Below w.heap.size w W' := by
  obtain ⟨h10, h11, h20, h21, h30, h31, h40, h41, h50, h51⟩ := hq
  have H0 := Lib.hid (fun W => HP _ _ _ p0 W)
  have H1 := Lib.hid (fun W => HP _ _ _ p1 W)
  have H2 := Lib.hid (fun W => HP _ _ _ p2 W)
  have H3 := Lib.hid (fun W => HP _ _ _ p3 W)
  have H4 := Lib.hid (fun W => HP _ _ _ p4 W)
  have H5 := Lib.hid (fun W => HP _ _ _ p5 W)
  clear HP p0 p1 p2 p3 p4 p5
  go_enter Try.func13, Try.ntmps13
  go_upto_region 1 with (fail)
  obtain ⟨W0, hW0, f0, f1, b0⟩ := two_rows w (cells6 x) (factC (fun _ => 0) ⟨#[]⟩) 37 29
  rw [hW0]
  clear hW0
  have x0 : W0.cell? ⟨w.heap.size, 0, none⟩ = some (.int .i64 (x 0)) := by rw [cell_of_row _ _ _ _ _ _ f0]; rfl
  have x1 : W0.cell? ⟨w.heap.size, 1, none⟩ = some (.int .i64 (x 1)) := by rw [cell_of_row _ _ _ _ _ _ f0]; rfl
  have x2 : W0.cell? ⟨w.heap.size, 2, none⟩ = some (.int .i64 (x 2)) := by rw [cell_of_row _ _ _ _ _ _ f0]; rfl
  have x3 : W0.cell? ⟨w.heap.size, 3, none⟩ = some (.int .i64 (x 3)) := by rw [cell_of_row _ _ _ _ _ _ f0]; rfl
  have x4 : W0.cell? ⟨w.heap.size, 4, none⟩ = some (.int .i64 (x 4)) := by rw [cell_of_row _ _ _ _ _ _ f0]; rfl
  have x5 : W0.cell? ⟨w.heap.size, 5, none⟩ = some (.int .i64 (x 5)) := by rw [cell_of_row _ _ _ _ _ _ f0]; rfl
  have F1 := Lib.hid f1
  have B0 := Lib.hid b0
  clear f0 f1 b0
  go_wp2_with fail
  refine (H1.out _).mono ?_
  rintro e w' ⟨rfl, rfl⟩
  go_wp2_with fail
  refine (H2.out _).mono ?_
  rintro e w' ⟨rfl, rfl⟩
  go_wp2_with fail
  refine (H3.out _).mono ?_
  rintro e w' ⟨rfl, rfl⟩
  go_wp2_with fail
  refine (H4.out _).mono ?_
  rintro e w' ⟨rfl, rfl⟩
  go_wp2_with fail
  refine (H5.out _).mono ?_
  rintro e w' ⟨rfl, rfl⟩
  go_wp2_with fail
  refine (H0.out _).mono ?_
  rintro e w' ⟨rfl, rfl⟩
  clear x0 x1 x2 x3 x4 x5 H0 H1 H2 H3 H4 H5
  have hone := factC_one (nthI [7, 0, 1 + q3, q5, 0, 0, 0, 0, 0, 0, 0, 0, 0, 1 + q4 * 1000, 0, 1 + q1, 0]) ⟨#[]⟩
  go_wp2_with (refine wpList_store_row rfl 29 _ _ rfl (w.heap.size + 1) (factC (nthI [7, 0, 1 + q3, q5, 0, 0, 0, 0, 0, 0, 0, 0, 0, 1 + q4 * 1000, 0, 1 + q1, 0]) ⟨#[]⟩) rfl rfl 29 _ F1.out (hiC _ _) rfl hone ?_)
  refine bodyPost_ret (v := .agg (factC (nthI [7, 0, 1 + q3, q5, 0, 0, 0, 0, 0, 0, 0, 0, 0, 1 + q4 * 1000, 0, 1 + q1, 0]) ⟨#[]⟩)) ?_ rfl ?_
  · exact results_cell_row rfl _ _ (w.heap.size + 1) 29 _ (0, 0) _ rfl (setRow_heap _ (w.heap.size + 1) _ _ 29 (0, 0) F1.out) Try.underlying29 rfl (hiC _ _)
  · exact ⟨rfl, below_setRow' B0.out _ _ (by omega)⟩
set_option maxRecDepth 100000 in
set_option maxHeartbeats 4000000 in
theorem make_7 (x : Nat → Int) (q1 q2 q3 q4 q5 : Int) (w : World) (hq : 0 ≤ q1 ∧ q1 < 4 ∧ 0 ≤ q2 ∧ q2 < 3 ∧ 0 ≤ q3 ∧ q3 < 4 ∧ 0 ≤ q4 ∧ q4 < 1000 ∧ 0 ≤ q5 ∧ q5 < 4)
    (P : Int → Int → Int → Prop) (HP : ∀ a n q, P a n q → ∀ W, Calls Try.prog 9 #[.int .i64 a, .int .i64 n] W fun e w' => e = .returned (.int .i64 q) ∧ W = w') (p0 : P (x 0) 10 7) (p1 : P (x 1) 4 q1) (p2 : P (x 2) 3 q2) (p3 : P (x 3) 4 q3) (p4 : P (x 4) 1000 q4) (p5 : P (x 5) 4 q5) :
    Calls Try.prog 13 #[.agg (cells6 x)] w fun e W' => e = .returned (.agg (factC (nthI [8, 1 + q1, 1 + q3, q5, 0, 1 + q2, 0, 0, 0, 0, 0, 0, 0, q4 * 10000, 0, 0, 0]) ⟨#[]⟩)) ∧ Below w.heap.size w W' := by
  obtain ⟨h10, h11, h20, h21, h30, h31, h40, h41, h50, h51⟩ := hq
  have H0 := Lib.hid (fun W => HP _ _ _ p0 W)
  have H1 := Lib.hid (fun W => HP _ _ _ p1 W)
  have H2 := Lib.hid (fun W => HP _ _ _ p2 W)
  have H3 := Lib.hid (fun W => HP _ _ _ p3 W)
  have H4 := Lib.hid (fun W => HP _ _ _ p4 W)
  have H5 := Lib.hid (fun W => HP _ _ _ p5 W)
  clear HP p0 p1 p2 p3 p4 p5
  go_enter Try.func13, Try.ntmps13
  go_upto_region 1 with (fail)
  obtain ⟨W0, hW0, f0, f1, b0⟩ := two_rows w (cells6 x) (factC (fun _ => 0) ⟨#[]⟩) 37 29
  rw [hW0]
  clear hW0
  have x0 : W0.cell? ⟨w.heap.size, 0, none⟩ = some (.int .i64 (x 0)) := by rw [cell_of_row _ _ _ _ _ _ f0]; rfl
  have x1 : W0.cell? ⟨w.heap.size, 1, none⟩ = some (.int .i64 (x 1)) := by rw [cell_of_row _ _ _ _ _ _ f0]; rfl
  have x2 : W0.cell? ⟨w.heap.size, 2, none⟩ = some (.int .i64 (x 2)) := by rw [cell_of_row _ _ _ _ _ _ f0]; rfl
  have x3 : W0.cell? ⟨w.heap.size, 3, none⟩ = some (.int .i64 (x 3)) := by rw [cell_of_row _ _ _ _ _ _ f0]; rfl
  have x4 : W0.cell? ⟨w.heap.size, 4, none⟩ = some (.int .i64 (x 4)) := by rw [cell_of_row _ _ _ _ _ _ f0]; rfl
  have x5 : W0.cell? ⟨w.heap.size, 5, none⟩ = some (.int .i64 (x 5)) := by rw [cell_of_row _ _ _ _ _ _ f0]; rfl
  have F1 := Lib.hid f1
  have B0 := Lib.hid b0
  clear f0 f1 b0
  go_wp2_with fail
  refine (H1.out _).mono ?_
  rintro e w' ⟨rfl, rfl⟩
  go_wp2_with fail
  refine (H2.out _).mono ?_
  rintro e w' ⟨rfl, rfl⟩
  go_wp2_with fail
  refine (H3.out _).mono ?_
  rintro e w' ⟨rfl, rfl⟩
  go_wp2_with fail
  refine (H4.out _).mono ?_
  rintro e w' ⟨rfl, rfl⟩
  go_wp2_with fail
  refine (H5.out _).mono ?_
  rintro e w' ⟨rfl, rfl⟩
  go_wp2_with fail
  refine (H0.out _).mono ?_
  rintro e w' ⟨rfl, rfl⟩
  clear x0 x1 x2 x3 x4 x5 H0 H1 H2 H3 H4 H5
  have hone := factC_one (nthI [8, 1 + q1, 1 + q3, q5, 0, 1 + q2, 0, 0, 0, 0, 0, 0, 0, q4 * 10000, 0, 0, 0]) ⟨#[]⟩
  go_wp2_with (refine wpList_store_row rfl 29 _ _ rfl (w.heap.size + 1) (factC (nthI [8, 1 + q1, 1 + q3, q5, 0, 1 + q2, 0, 0, 0, 0, 0, 0, 0, q4 * 10000, 0, 0, 0]) ⟨#[]⟩) rfl rfl 29 _ F1.out (hiC _ _) rfl hone ?_)
  refine bodyPost_ret (v := .agg (factC (nthI [8, 1 + q1, 1 + q3, q5, 0, 1 + q2, 0, 0, 0, 0, 0, 0, 0, q4 * 10000, 0, 0, 0]) ⟨#[]⟩)) ?_ rfl ?_
  · exact results_cell_row rfl _ _ (w.heap.size + 1) 29 _ (0, 0) _ rfl (setRow_heap _ (w.heap.size + 1) _ _ 29 (0, 0) F1.out) Try.underlying29 rfl (hiC _ _)
  · exact ⟨rfl, below_setRow' B0.out _ _ (by omega)⟩
set_option maxRecDepth 100000 in
set_option maxHeartbeats 4000000 in
theorem make_8_0 (x : Nat → Int) (q1 q2 q3 q4 q5 : Int) (w : World) (hq : 0 ≤ q1 ∧ q1 < 4 ∧ 0 ≤ q2 ∧ q2 < 3 ∧ 0 ≤ q3 ∧ q3 < 4 ∧ 0 ≤ q4 ∧ q4 < 1000 ∧ 0 ≤ q5 ∧ q5 < 4) (hm : q4 % 3 = 0)
    (P : Int → Int → Int → Prop) (HP : ∀ a n q, P a n q → ∀ W, Calls Try.prog 9 #[.int .i64 a, .int .i64 n] W fun e w' => e = .returned (.int .i64 q) ∧ W = w') (p0 : P (x 0) 10 8) (p1 : P (x 1) 4 q1) (p2 : P (x 2) 3 q2) (p3 : P (x 3) 4 q3) (p4 : P (x 4) 1000 q4) (p5 : P (x 5) 4 q5) :
    Calls Try.prog 13 #[.agg (cells6 x)] w fun e W' => e = .returned (.agg (factC (nthI [9, 0, 1 + q3, 0, 0, 0, 0, 0, 0, 0, 0, q5, 0, 0, 0, 0, 0]) ⟨#[]⟩)) ∧ Below w.heap.size w W' := by
  obtain ⟨h10, h11, h20, h21, h30, h31, h40, h41, h50, h51⟩ := hq
  have H0 := Lib.hid (fun W => HP _ _ _ p0 W)
  have H1 := Lib.hid (fun W => HP _ _ _ p1 W)
  have H2 := Lib.hid (fun W => HP _ _ _ p2 W)
  have H3 := Lib.hid (fun W => HP _ _ _ p3 W)
  have H4 := Lib.hid (fun W => HP _ _ _ p4 W)
  have H5 := Lib.hid (fun W => HP _ _ _ p5 W)
  clear HP p0 p1 p2 p3 p4 p5
  have hm2 : q4.tmod 3 = 0 := by rw [Int.tmod_eq_emod_of_nonneg h40]; exact hm
  go_enter Try.func13, Try.ntmps13
  go_upto_region 1 with (fail)
  obtain ⟨W0, hW0, f0, f1, b0⟩ := two_rows w (cells6 x) (factC (fun _ => 0) ⟨#[]⟩) 37 29
  rw [hW0]
  clear hW0
  have x0 : W0.cell? ⟨w.heap.size, 0, none⟩ = some (.int .i64 (x 0)) := by rw [cell_of_row _ _ _ _ _ _ f0]; rfl
  have x1 : W0.cell? ⟨w.heap.size, 1, none⟩ = some (.int .i64 (x 1)) := by rw [cell_of_row _ _ _ _ _ _ f0]; rfl
  have x2 : W0.cell? ⟨w.heap.size, 2, none⟩ = some (.int .i64 (x 2)) := by rw [cell_of_row _ _ _ _ _ _ f0]; rfl
  have x3 : W0.cell? ⟨w.heap.size, 3, none⟩ = some (.int .i64 (x 3)) := by rw [cell_of_row _ _ _ _ _ _ f0]; rfl
  have x4 : W0.cell? ⟨w.heap.size, 4, none⟩ = some (.int .i64 (x 4)) := by rw [cell_of_row _ _ _ _ _ _ f0]; rfl
  have x5 : W0.cell? ⟨w.heap.size, 5, none⟩ = some (.int .i64 (x 5)) := by rw [cell_of_row _ _ _ _ _ _ f0]; rfl
  have F1 := Lib.hid f1
  have B0 := Lib.hid b0
  clear f0 f1 b0
  go_wp2_with fail
  refine (H1.out _).mono ?_
  rintro e w' ⟨rfl, rfl⟩
  go_wp2_with fail
  refine (H2.out _).mono ?_
  rintro e w' ⟨rfl, rfl⟩
  go_wp2_with fail
  refine (H3.out _).mono ?_
  rintro e w' ⟨rfl, rfl⟩
  go_wp2_with fail
  refine (H4.out _).mono ?_
  rintro e w' ⟨rfl, rfl⟩
  go_wp2_with fail
  refine (H5.out _).mono ?_
  rintro e w' ⟨rfl, rfl⟩
  go_wp2_with fail
  refine (H0.out _).mono ?_
  rintro e w' ⟨rfl, rfl⟩
  clear x0 x1 x2 x3 x4 x5 H0 H1 H2 H3 H4 H5
  have hone := factC_one (nthI [9, 0, 1 + q3, 0, 0, 0, 0, 0, 0, 0, 0, q5, 0, 0, 0, 0, 0]) ⟨#[]⟩
  have bS : Below W0.heap.size W0 (W0.alloc (.cells #[.string ⟨#[]⟩, .string ⟨#[104, 111, 108, 100, 32, 105, 102, 32, 97, 99, 99, 111, 117, 110, 116, 32, 115, 116, 114, 101, 97, 109, 115, 32, 62, 32, 51, 10]⟩, .string ⟨#[120]⟩] 9)) := (Below.refl _ W0).alloc (Nat.le_refl _) _
  have FS := Lib.hid (Hl.row bS F1.out)
  have BS := Lib.hid (B0.out.trans (Below.mono bS B0.out.size))
  clear bS
  go_wp2_with (refine wpList_store_row rfl 29 _ _ rfl (w.heap.size + 1) (factC (nthI [9, 0, 1 + q3, 0, 0, 0, 0, 0, 0, 0, 0, q5, 0, 0, 0, 0, 0]) ⟨#[]⟩) rfl rfl 29 _ FS.out (hiC _ _) rfl hone ?_)
  refine bodyPost_ret (v := .agg (factC (nthI [9, 0, 1 + q3, 0, 0, 0, 0, 0, 0, 0, 0, q5, 0, 0, 0, 0, 0]) ⟨#[]⟩)) ?_ rfl ?_
  · exact results_cell_row rfl _ _ (w.heap.size + 1) 29 _ (0, 0) _ rfl (setRow_heap _ (w.heap.size + 1) _ _ 29 (0, 0) FS.out) Try.underlying29 rfl (hiC _ _)
  · exact ⟨rfl, below_setRow' BS.out _ _ (by omega)⟩
set_option maxRecDepth 100000 in
set_option maxHeartbeats 4000000 in
theorem make_8_1 (x : Nat → Int) (q1 q2 q3 q4 q5 : Int) (w : World) (hq : 0 ≤ q1 ∧ q1 < 4 ∧ 0 ≤ q2 ∧ q2 < 3 ∧ 0 ≤ q3 ∧ q3 < 4 ∧ 0 ≤ q4 ∧ q4 < 1000 ∧ 0 ≤ q5 ∧ q5 < 4) (hm : q4 % 3 = 1)
    (P : Int → Int → Int → Prop) (HP : ∀ a n q, P a n q → ∀ W, Calls Try.prog 9 #[.int .i64 a, .int .i64 n] W fun e w' => e = .returned (.int .i64 q) ∧ W = w') (p0 : P (x 0) 10 8) (p1 : P (x 1) 4 q1) (p2 : P (x 2) 3 q2) (p3 : P (x 3) 4 q3) (p4 : P (x 4) 1000 q4) (p5 : P (x 5) 4 q5) :
    Calls Try.prog 13 #[.agg (cells6 x)] w fun e W' => e = .returned (.agg (factC (nthI [9, 0, 1 + q3, 0, 0, 0, 0, 0, 0, 0, 0, q5, 0, 0, 0, 0, 0]) ⟨#[104, 111, 108, 100, 32, 105, 102, 32, 97, 99, 99, 111, 117, 110, 116, 32, 115, 116, 114, 101, 97, 109, 115, 32, 62, 32, 51, 10]⟩)) ∧ Below w.heap.size w W' := by
  obtain ⟨h10, h11, h20, h21, h30, h31, h40, h41, h50, h51⟩ := hq
  have H0 := Lib.hid (fun W => HP _ _ _ p0 W)
  have H1 := Lib.hid (fun W => HP _ _ _ p1 W)
  have H2 := Lib.hid (fun W => HP _ _ _ p2 W)
  have H3 := Lib.hid (fun W => HP _ _ _ p3 W)
  have H4 := Lib.hid (fun W => HP _ _ _ p4 W)
  have H5 := Lib.hid (fun W => HP _ _ _ p5 W)
  clear HP p0 p1 p2 p3 p4 p5
  have hm2 : q4.tmod 3 = 1 := by rw [Int.tmod_eq_emod_of_nonneg h40]; exact hm
  go_enter Try.func13, Try.ntmps13
  go_upto_region 1 with (fail)
  obtain ⟨W0, hW0, f0, f1, b0⟩ := two_rows w (cells6 x) (factC (fun _ => 0) ⟨#[]⟩) 37 29
  rw [hW0]
  clear hW0
  have x0 : W0.cell? ⟨w.heap.size, 0, none⟩ = some (.int .i64 (x 0)) := by rw [cell_of_row _ _ _ _ _ _ f0]; rfl
  have x1 : W0.cell? ⟨w.heap.size, 1, none⟩ = some (.int .i64 (x 1)) := by rw [cell_of_row _ _ _ _ _ _ f0]; rfl
  have x2 : W0.cell? ⟨w.heap.size, 2, none⟩ = some (.int .i64 (x 2)) := by rw [cell_of_row _ _ _ _ _ _ f0]; rfl
  have x3 : W0.cell? ⟨w.heap.size, 3, none⟩ = some (.int .i64 (x 3)) := by rw [cell_of_row _ _ _ _ _ _ f0]; rfl
  have x4 : W0.cell? ⟨w.heap.size, 4, none⟩ = some (.int .i64 (x 4)) := by rw [cell_of_row _ _ _ _ _ _ f0]; rfl
  have x5 : W0.cell? ⟨w.heap.size, 5, none⟩ = some (.int .i64 (x 5)) := by rw [cell_of_row _ _ _ _ _ _ f0]; rfl
  have F1 := Lib.hid f1
  have B0 := Lib.hid b0
  clear f0 f1 b0
  go_wp2_with fail
  refine (H1.out _).mono ?_
  rintro e w' ⟨rfl, rfl⟩
  go_wp2_with fail
  refine (H2.out _).mono ?_
  rintro e w' ⟨rfl, rfl⟩
  go_wp2_with fail
  refine (H3.out _).mono ?_
  rintro e w' ⟨rfl, rfl⟩
  go_wp2_with fail
  refine (H4.out _).mono ?_
  rintro e w' ⟨rfl, rfl⟩
  go_wp2_with fail
  refine (H5.out _).mono ?_
  rintro e w' ⟨rfl, rfl⟩
  go_wp2_with fail
  refine (H0.out _).mono ?_
  rintro e w' ⟨rfl, rfl⟩
  clear x0 x1 x2 x3 x4 x5 H0 H1 H2 H3 H4 H5
  have hone := factC_one (nthI [9, 0, 1 + q3, 0, 0, 0, 0, 0, 0, 0, 0, q5, 0, 0, 0, 0, 0]) ⟨#[104, 111, 108, 100, 32, 105, 102, 32, 97, 99, 99, 111, 117, 110, 116, 32, 115, 116, 114, 101, 97, 109, 115, 32, 62, 32, 51, 10]⟩
  have bS : Below W0.heap.size W0 (W0.alloc (.cells #[.string ⟨#[]⟩, .string ⟨#[104, 111, 108, 100, 32, 105, 102, 32, 97, 99, 99, 111, 117, 110, 116, 32, 115, 116, 114, 101, 97, 109, 115, 32, 62, 32, 51, 10]⟩, .string ⟨#[120]⟩] 9)) := (Below.refl _ W0).alloc (Nat.le_refl _) _
  have FS := Lib.hid (Hl.row bS F1.out)
  have BS := Lib.hid (B0.out.trans (Below.mono bS B0.out.size))
  clear bS
  go_wp2_with (refine wpList_store_row rfl 29 _ _ rfl (w.heap.size + 1) (factC (nthI [9, 0, 1 + q3, 0, 0, 0, 0, 0, 0, 0, 0, q5, 0, 0, 0, 0, 0]) ⟨#[104, 111, 108, 100, 32, 105, 102, 32, 97, 99, 99, 111, 117, 110, 116, 32, 115, 116, 114, 101, 97, 109, 115, 32, 62, 32, 51, 10]⟩) rfl rfl 29 _ FS.out (hiC _ _) rfl hone ?_)
  refine bodyPost_ret (v := .agg (factC (nthI [9, 0, 1 + q3, 0, 0, 0, 0, 0, 0, 0, 0, q5, 0, 0, 0, 0, 0]) ⟨#[104, 111, 108, 100, 32, 105, 102, 32, 97, 99, 99, 111, 117, 110, 116, 32, 115, 116, 114, 101, 97, 109, 115, 32, 62, 32, 51, 10]⟩)) ?_ rfl ?_
  · exact results_cell_row rfl _ _ (w.heap.size + 1) 29 _ (0, 0) _ rfl (setRow_heap _ (w.heap.size + 1) _ _ 29 (0, 0) FS.out) Try.underlying29 rfl (hiC _ _)
  · exact ⟨rfl, below_setRow' BS.out _ _ (by omega)⟩
set_option maxRecDepth 100000 in
set_option maxHeartbeats 4000000 in
theorem make_8_2 (x : Nat → Int) (q1 q2 q3 q4 q5 : Int) (w : World) (hq : 0 ≤ q1 ∧ q1 < 4 ∧ 0 ≤ q2 ∧ q2 < 3 ∧ 0 ≤ q3 ∧ q3 < 4 ∧ 0 ≤ q4 ∧ q4 < 1000 ∧ 0 ≤ q5 ∧ q5 < 4) (hm : q4 % 3 = 2)
    (P : Int → Int → Int → Prop) (HP : ∀ a n q, P a n q → ∀ W, Calls Try.prog 9 #[.int .i64 a, .int .i64 n] W fun e w' => e = .returned (.int .i64 q) ∧ W = w') (p0 : P (x 0) 10 8) (p1 : P (x 1) 4 q1) (p2 : P (x 2) 3 q2) (p3 : P (x 3) 4 q3) (p4 : P (x 4) 1000 q4) (p5 : P (x 5) 4 q5) :
    Calls Try.prog 13 #[.agg (cells6 x)] w fun e W' => e = .returned (.agg (factC (nthI [9, 0, 1 + q3, 0, 0, 0, 0, 0, 0, 0, 0, q5, 0, 0, 0, 0, 0]) ⟨#[120]⟩)) ∧ Below w.heap.size w W' := by
  obtain ⟨h10, h11, h20, h21, h30, h31, h40, h41, h50, h51⟩ := hq
  have H0 := Lib.hid (fun W => HP _ _ _ p0 W)
  have H1 := Lib.hid (fun W => HP _ _ _ p1 W)
  have H2 := Lib.hid (fun W => HP _ _ _ p2 W)
  have H3 := Lib.hid (fun W => HP _ _ _ p3 W)
  have H4 := Lib.hid (fun W => HP _ _ _ p4 W)
  have H5 := Lib.hid (fun W => HP _ _ _ p5 W)
  clear HP p0 p1 p2 p3 p4 p5
  have hm2 : q4.tmod 3 = 2 := by rw [Int.tmod_eq_emod_of_nonneg h40]; exact hm
  go_enter Try.func13, Try.ntmps13
  go_upto_region 1 with (fail)
  obtain ⟨W0, hW0, f0, f1, b0⟩ := two_rows w (cells6 x) (factC (fun _ => 0) ⟨#[]⟩) 37 29
  rw [hW0]
  clear hW0
  have x0 : W0.cell? ⟨w.heap.size, 0, none⟩ = some (.int .i64 (x 0)) := by rw [cell_of_row _ _ _ _ _ _ f0]; rfl
  have x1 : W0.cell? ⟨w.heap.size, 1, none⟩ = some (.int .i64 (x 1)) := by rw [cell_of_row _ _ _ _ _ _ f0]; rfl
  have x2 : W0.cell? ⟨w.heap.size, 2, none⟩ = some (.int .i64 (x 2)) := by rw [cell_of_row _ _ _ _ _ _ f0]; rfl
  have x3 : W0.cell? ⟨w.heap.size, 3, none⟩ = some (.int .i64 (x 3)) := by rw [cell_of_row _ _ _ _ _ _ f0]; rfl
  have x4 : W0.cell? ⟨w.heap.size, 4, none⟩ = some (.int .i64 (x 4)) := by rw [cell_of_row _ _ _ _ _ _ f0]; rfl
  have x5 : W0.cell? ⟨w.heap.size, 5, none⟩ = some (.int .i64 (x 5)) := by rw [cell_of_row _ _ _ _ _ _ f0]; rfl
  have F1 := Lib.hid f1
  have B0 := Lib.hid b0
  clear f0 f1 b0
  go_wp2_with fail
  refine (H1.out _).mono ?_
  rintro e w' ⟨rfl, rfl⟩
  go_wp2_with fail
  refine (H2.out _).mono ?_
  rintro e w' ⟨rfl, rfl⟩
  go_wp2_with fail
  refine (H3.out _).mono ?_
  rintro e w' ⟨rfl, rfl⟩
  go_wp2_with fail
  refine (H4.out _).mono ?_
  rintro e w' ⟨rfl, rfl⟩
  go_wp2_with fail
  refine (H5.out _).mono ?_
  rintro e w' ⟨rfl, rfl⟩
  go_wp2_with fail
  refine (H0.out _).mono ?_
  rintro e w' ⟨rfl, rfl⟩
  clear x0 x1 x2 x3 x4 x5 H0 H1 H2 H3 H4 H5
  have hone := factC_one (nthI [9, 0, 1 + q3, 0, 0, 0, 0, 0, 0, 0, 0, q5, 0, 0, 0, 0, 0]) ⟨#[120]⟩
  have bS : Below W0.heap.size W0 (W0.alloc (.cells #[.string ⟨#[]⟩, .string ⟨#[104, 111, 108, 100, 32, 105, 102, 32, 97, 99, 99, 111, 117, 110, 116, 32, 115, 116, 114, 101, 97, 109, 115, 32, 62, 32, 51, 10]⟩, .string ⟨#[120]⟩] 9)) := (Below.refl _ W0).alloc (Nat.le_refl _) _
  have FS := Lib.hid (Hl.row bS F1.out)
  have BS := Lib.hid (B0.out.trans (Below.mono bS B0.out.size))
  clear bS
  go_wp2_with (refine wpList_store_row rfl 29 _ _ rfl (w.heap.size + 1) (factC (nthI [9, 0, 1 + q3, 0, 0, 0, 0, 0, 0, 0, 0, q5, 0, 0, 0, 0, 0]) ⟨#[120]⟩) rfl rfl 29 _ FS.out (hiC _ _) rfl hone ?_)
  refine bodyPost_ret (v := .agg (factC (nthI [9, 0, 1 + q3, 0, 0, 0, 0, 0, 0, 0, 0, q5, 0, 0, 0, 0, 0]) ⟨#[120]⟩)) ?_ rfl ?_
  · exact results_cell_row rfl _ _ (w.heap.size + 1) 29 _ (0, 0) _ rfl (setRow_heap _ (w.heap.size + 1) _ _ 29 (0, 0) FS.out) Try.underlying29 rfl (hiC _ _)
  · exact ⟨rfl, below_setRow' BS.out _ _ (by omega)⟩
set_option maxRecDepth 100000 in
set_option maxHeartbeats 4000000 in
theorem make_9 (x : Nat → Int) (q1 q2 q3 q4 q5 : Int) (w : World) (hq : 0 ≤ q1 ∧ q1 < 4 ∧ 0 ≤ q2 ∧ q2 < 3 ∧ 0 ≤ q3 ∧ q3 < 4 ∧ 0 ≤ q4 ∧ q4 < 1000 ∧ 0 ≤ q5 ∧ q5 < 4)
    (P : Int → Int → Int → Prop) (HP : ∀ a n q, P a n q → ∀ W, Calls Try.prog 9 #[.int .i64 a, .int .i64 n] W fun e w' => e = .returned (.int .i64 q) ∧ W = w') (p0 : P (x 0) 10 9) (p1 : P (x 1) 4 q1) (p2 : P (x 2) 3 q2) (p3 : P (x 3) 4 q3) (p4 : P (x 4) 1000 q4) (p5 : P (x 5) 4 q5) :
    Calls Try.prog 13 #[.agg (cells6 x)] w fun e W' => e = .returned (.agg (factC (nthI [10, 0, 1 + q3, 0, 0, 0, 0, 0, 1 + q1, 0, 0, q5, 0, 0, 0, 0, 1 + q4 % 2]) ⟨#[]⟩)) ∧ Below w.heap.size w W' := by
  obtain ⟨h10, h11, h20, h21, h30, h31, h40, h41, h50, h51⟩ := hq
  have H0 := Lib.hid (fun W => HP _ _ _ p0 W)
  have H1 := Lib.hid (fun W => HP _ _ _ p1 W)
  have H2 := Lib.hid (fun W => HP _ _ _ p2 W)
  have H3 := Lib.hid (fun W => HP _ _ _ p3 W)
  have H4 := Lib.hid (fun W => HP _ _ _ p4 W)
  have H5 := Lib.hid (fun W => HP _ _ _ p5 W)
  clear HP p0 p1 p2 p3 p4 p5
  go_enter Try.func13, Try.ntmps13
  go_upto_region 1 with (fail)
  obtain ⟨W0, hW0, f0, f1, b0⟩ := two_rows w (cells6 x) (factC (fun _ => 0) ⟨#[]⟩) 37 29
  rw [hW0]
  clear hW0
  have x0 : W0.cell? ⟨w.heap.size, 0, none⟩ = some (.int .i64 (x 0)) := by rw [cell_of_row _ _ _ _ _ _ f0]; rfl
  have x1 : W0.cell? ⟨w.heap.size, 1, none⟩ = some (.int .i64 (x 1)) := by rw [cell_of_row _ _ _ _ _ _ f0]; rfl
  have x2 : W0.cell? ⟨w.heap.size, 2, none⟩ = some (.int .i64 (x 2)) := by rw [cell_of_row _ _ _ _ _ _ f0]; rfl
  have x3 : W0.cell? ⟨w.heap.size, 3, none⟩ = some (.int .i64 (x 3)) := by rw [cell_of_row _ _ _ _ _ _ f0]; rfl
  have x4 : W0.cell? ⟨w.heap.size, 4, none⟩ = some (.int .i64 (x 4)) := by rw [cell_of_row _ _ _ _ _ _ f0]; rfl
  have x5 : W0.cell? ⟨w.heap.size, 5, none⟩ = some (.int .i64 (x 5)) := by rw [cell_of_row _ _ _ _ _ _ f0]; rfl
  have F1 := Lib.hid f1
  have B0 := Lib.hid b0
  clear f0 f1 b0
  go_wp2_with fail
  refine (H1.out _).mono ?_
  rintro e w' ⟨rfl, rfl⟩
  go_wp2_with fail
  refine (H2.out _).mono ?_
  rintro e w' ⟨rfl, rfl⟩
  go_wp2_with fail
  refine (H3.out _).mono ?_
  rintro e w' ⟨rfl, rfl⟩
  go_wp2_with fail
  refine (H4.out _).mono ?_
  rintro e w' ⟨rfl, rfl⟩
  go_wp2_with fail
  refine (H5.out _).mono ?_
  rintro e w' ⟨rfl, rfl⟩
  go_wp2_with fail
  refine (H0.out _).mono ?_
  rintro e w' ⟨rfl, rfl⟩
  clear x0 x1 x2 x3 x4 x5 H0 H1 H2 H3 H4 H5
  have hone := factC_one (nthI [10, 0, 1 + q3, 0, 0, 0, 0, 0, 1 + q1, 0, 0, q5, 0, 0, 0, 0, 1 + q4 % 2]) ⟨#[]⟩
  go_wp2_with (refine wpList_store_row rfl 29 _ _ rfl (w.heap.size + 1) (factC (nthI [10, 0, 1 + q3, 0, 0, 0, 0, 0, 1 + q1, 0, 0, q5, 0, 0, 0, 0, 1 + q4 % 2]) ⟨#[]⟩) rfl rfl 29 _ F1.out (hiC _ _) rfl hone ?_)
  refine bodyPost_ret (v := .agg (factC (nthI [10, 0, 1 + q3, 0, 0, 0, 0, 0, 1 + q1, 0, 0, q5, 0, 0, 0, 0, 1 + q4 % 2]) ⟨#[]⟩)) ?_ rfl ?_
  · exact results_cell_row rfl _ _ (w.heap.size + 1) 29 _ (0, 0) _ rfl (setRow_heap _ (w.heap.size + 1) _ _ 29 (0, 0) F1.out) Try.underlying29 rfl (hiC _ _)
  · exact ⟨rfl, below_setRow' B0.out _ _ (by omega)⟩
theorem Make_calls (x : Nat → Int) (w : World) (hx : In6 x) : Calls Try.prog 13 #[.agg (cells6 x)] w fun e W' => e = .returned (.agg (factC (makeF x).1 (makeF x).2)) ∧ Below w.heap.size w W' := by
  obtain ⟨a0, a1⟩ := pickF_lt (x 0) 10 (by omega)
  obtain ⟨h10, h11⟩ := pickF_lt (x 1) 4 (by omega)
  obtain ⟨h20, h21⟩ := pickF_lt (x 2) 3 (by omega)
  obtain ⟨h30, h31⟩ := pickF_lt (x 3) 4 (by omega)
  obtain ⟨h40, h41⟩ := pickF_lt (x 4) 1000 (by omega)
  obtain ⟨h50, h51⟩ := pickF_lt (x 5) 4 (by omega)
  let P : Int → Int → Int → Prop := fun a n q => pickF a n = q ∧ -9223372036854775808 ≤ a ∧ a ≤ 9223372036854775807 ∧ 1 ≤ n ∧ n ≤ 9223372036854775807
  have HP : ∀ a n q, P a n q → ∀ W, Calls Try.prog 9 #[.int .i64 a, .int .i64 n] W fun e w' => e = .returned (.int .i64 q) ∧ W = w' := by
    rintro a n q ⟨rfl, h1, h2, h3, h4⟩ W
    exact pick_calls a n W h1 h2 h3 h4
  have mk : ∀ i n, i < 6 → 1 ≤ n → n ≤ 9223372036854775807 → P (x i) n (pickF (x i) n) := fun i n hi h1 h2 => ⟨rfl, (hx i hi).1, (hx i hi).2, h1, h2⟩
  have p1 := mk 1 4 (by omega) (by omega) (by omega)
  have p2 := mk 2 3 (by omega) (by omega) (by omega)
  have p3 := mk 3 4 (by omega) (by omega) (by omega)
  have p4 := mk 4 1000 (by omega) (by omega) (by omega)
  have p5 := mk 5 4 (by omega) (by omega) (by omega)
  have p0 := mk 0 10 (by omega) (by omega) (by omega)
  unfold makeF
  generalize pickF (x 0) 10 = q0 at *
  generalize pickF (x 1) 4 = q1 at *
  generalize pickF (x 2) 3 = q2 at *
  generalize pickF (x 3) 4 = q3 at *
  generalize pickF (x 4) 1000 = q4 at *
  generalize pickF (x 5) 4 = q5 at *
  have hq : q0 = 0 ∨ q0 = 1 ∨ q0 = 2 ∨ q0 = 3 ∨ q0 = 4 ∨ q0 = 5 ∨ q0 = 6 ∨ q0 = 7 ∨ q0 = 8 ∨ q0 = 9 := by omega
  rcases hq with rfl | rfl | rfl | rfl | rfl | rfl | rfl | rfl | rfl | rfl
  · exact make_0 x q1 q2 q3 q4 q5 w ⟨h10, h11, h20, h21, h30, h31, h40, h41, h50, h51⟩ P HP p0 p1 p2 p3 p4 p5
  · exact make_1 x q1 q2 q3 q4 q5 w ⟨h10, h11, h20, h21, h30, h31, h40, h41, h50, h51⟩ P HP p0 p1 p2 p3 p4 p5
  · exact make_2 x q1 q2 q3 q4 q5 w ⟨h10, h11, h20, h21, h30, h31, h40, h41, h50, h51⟩ P HP p0 p1 p2 p3 p4 p5
  · have hm : q4 % 4 = 0 ∨ q4 % 4 = 1 ∨ q4 % 4 = 2 ∨ q4 % 4 = 3 := by omega
    rcases hm with hm | hm | hm | hm
    · have e : mkT 3 q4 = ⟨#[]⟩ := by simp [mkT, hm]
      show Calls _ _ _ _ fun e W' => e = .returned (.agg (factC (nthI [4, 0, 1 + q3, 0, 0, 0, 0, 0, 0, 1 + q1, 0, q5, 0, 0, 0, 0, 0]) (mkT 3 q4))) ∧ _
      rw [e]; exact make_3_0 x q1 q2 q3 q4 q5 w ⟨h10, h11, h20, h21, h30, h31, h40, h41, h50, h51⟩ hm P HP p0 p1 p2 p3 p4 p5
    · have e : mkT 3 q4 = ⟨#[116, 97, 120, 32, 49, 53, 37, 10]⟩ := by simp [mkT, hm]
      show Calls _ _ _ _ fun e W' => e = .returned (.agg (factC (nthI [4, 0, 1 + q3, 0, 0, 0, 0, 0, 0, 1 + q1, 0, q5, 0, 0, 0, 0, 0]) (mkT 3 q4))) ∧ _
      rw [e]; exact make_3_1 x q1 q2 q3 q4 q5 w ⟨h10, h11, h20, h21, h30, h31, h40, h41, h50, h51⟩ hm P HP p0 p1 p2 p3 p4 p5
    · have e : mkT 3 q4 = ⟨#[112, 97, 115, 115, 32, 50, 48, 37, 32, 116, 111, 32, 51, 10]⟩ := by simp [mkT, hm]
      show Calls _ _ _ _ fun e W' => e = .returned (.agg (factC (nthI [4, 0, 1 + q3, 0, 0, 0, 0, 0, 0, 1 + q1, 0, q5, 0, 0, 0, 0, 0]) (mkT 3 q4))) ∧ _
      rw [e]; exact make_3_2 x q1 q2 q3 q4 q5 w ⟨h10, h11, h20, h21, h30, h31, h40, h41, h50, h51⟩ hm P HP p0 p1 p2 p3 p4 p5
    · have e : mkT 3 q4 = ⟨#[110, 111, 110, 115, 101, 110, 115, 101]⟩ := by simp [mkT, hm]
      show Calls _ _ _ _ fun e W' => e = .returned (.agg (factC (nthI [4, 0, 1 + q3, 0, 0, 0, 0, 0, 0, 1 + q1, 0, q5, 0, 0, 0, 0, 0]) (mkT 3 q4))) ∧ _
      rw [e]; exact make_3_3 x q1 q2 q3 q4 q5 w ⟨h10, h11, h20, h21, h30, h31, h40, h41, h50, h51⟩ hm P HP p0 p1 p2 p3 p4 p5
  · exact make_4 x q1 q2 q3 q4 q5 w ⟨h10, h11, h20, h21, h30, h31, h40, h41, h50, h51⟩ P HP p0 p1 p2 p3 p4 p5
  · exact make_5 x q1 q2 q3 q4 q5 w ⟨h10, h11, h20, h21, h30, h31, h40, h41, h50, h51⟩ P HP p0 p1 p2 p3 p4 p5
  · exact make_6 x q1 q2 q3 q4 q5 w ⟨h10, h11, h20, h21, h30, h31, h40, h41, h50, h51⟩ P HP p0 p1 p2 p3 p4 p5
  · exact make_7 x q1 q2 q3 q4 q5 w ⟨h10, h11, h20, h21, h30, h31, h40, h41, h50, h51⟩ P HP p0 p1 p2 p3 p4 p5
  · have hm : q4 % 3 = 0 ∨ q4 % 3 = 1 ∨ q4 % 3 = 2 := by omega
    rcases hm with hm | hm | hm
    · have e : mkT 8 q4 = ⟨#[]⟩ := by simp [mkT, hm]
      show Calls _ _ _ _ fun e W' => e = .returned (.agg (factC (nthI [9, 0, 1 + q3, 0, 0, 0, 0, 0, 0, 0, 0, q5, 0, 0, 0, 0, 0]) (mkT 8 q4))) ∧ _
      rw [e]; exact make_8_0 x q1 q2 q3 q4 q5 w ⟨h10, h11, h20, h21, h30, h31, h40, h41, h50, h51⟩ hm P HP p0 p1 p2 p3 p4 p5
    · have e : mkT 8 q4 = ⟨#[104, 111, 108, 100, 32, 105, 102, 32, 97, 99, 99, 111, 117, 110, 116, 32, 115, 116, 114, 101, 97, 109, 115, 32, 62, 32, 51, 10]⟩ := by simp [mkT, hm]
      show Calls _ _ _ _ fun e W' => e = .returned (.agg (factC (nthI [9, 0, 1 + q3, 0, 0, 0, 0, 0, 0, 0, 0, q5, 0, 0, 0, 0, 0]) (mkT 8 q4))) ∧ _
      rw [e]; exact make_8_1 x q1 q2 q3 q4 q5 w ⟨h10, h11, h20, h21, h30, h31, h40, h41, h50, h51⟩ hm P HP p0 p1 p2 p3 p4 p5
    · have e : mkT 8 q4 = ⟨#[120]⟩ := by simp [mkT, hm]
      show Calls _ _ _ _ fun e W' => e = .returned (.agg (factC (nthI [9, 0, 1 + q3, 0, 0, 0, 0, 0, 0, 0, 0, q5, 0, 0, 0, 0, 0]) (mkT 8 q4))) ∧ _
      rw [e]; exact make_8_2 x q1 q2 q3 q4 q5 w ⟨h10, h11, h20, h21, h30, h31, h40, h41, h50, h51⟩ hm P HP p0 p1 p2 p3 p4 p5
  · exact make_9 x q1 q2 q3 q4 q5 w ⟨h10, h11, h20, h21, h30, h31, h40, h41, h50, h51⟩ P HP p0 p1 p2 p3 p4 p5
end Go.Proofs.Ytngkfopdlkddnaa
