/- Contracts of the laws' helpers: NumberFrom, for every integer, and sane, which returns true wherever the table reads as the program lays it. -/
import Derived.Test.YthhjdcpodaledaaDoorWire
namespace Go.Proofs.YthhjdcpodaledaaDoor
open Go.RowKit

theorem pickF_range (c n : Int) (h : 1 ≤ n) : 0 ≤ pickF c n ∧ pickF c n < n := by
  unfold pickF
  split
  · exact ⟨Int.emod_nonneg _ (by omega), Int.emod_lt_of_pos _ (by omega)⟩
  · exact ⟨Int.emod_nonneg _ (by omega), Int.emod_lt_of_pos _ (by omega)⟩

def sizes (k : Nat) : Int := [64, 128, 8192, 16384, 1073741824, 36028797018963968, 576460752303423488, 2].getD k 2
theorem sizes_range (k : Nat) : 1 ≤ sizes k ∧ sizes k ≤ 576460752303423488 := by
  unfold sizes
  match k with
  | 0 | 1 | 2 | 3 | 4 | 5 | 6 | 7 => simp
  | k + 8 => simp
/-- What NumberFrom returns. -/
def numF (c : Int) : Int :=
  let n := pickF (pickF c 4611686018427387904 / 8) (sizes (pickF c 8).toNat)
  if 8 ≤ pickF c 16 then -n else n
theorem numF_range (c : Int) : -576460752303423488 ≤ numF c ∧ numF c ≤ 576460752303423488 := by
  have h1 := sizes_range (pickF c 8).toNat
  have h2 := pickF_range (pickF c 4611686018427387904 / 8) (sizes (pickF c 8).toNat) h1.1
  unfold numF
  dsimp only
  split <;> omega

theorem row_get (k : Nat) (h : k < [Value.int .i64 64, .int .i64 128, .int .i64 8192, .int .i64 16384, .int .i64 1073741824, .int .i64 36028797018963968, .int .i64 576460752303423488, .int .i64 2].length) :
    [Value.int .i64 64, .int .i64 128, .int .i64 8192, .int .i64 16384, .int .i64 1073741824, .int .i64 36028797018963968, .int .i64 576460752303423488, .int .i64 2][k] = .int .i64 (sizes k) := by
  rcases (show k = 0 ∨ k = 1 ∨ k = 2 ∨ k = 3 ∨ k = 4 ∨ k = 5 ∨ k = 6 ∨ k = 7 by simp at h; omega) with rfl | rfl | rfl | rfl | rfl | rfl | rfl | rfl <;> rfl

set_option maxHeartbeats 400000 in
theorem number_calls (c : Int) (w : World) (h0 : -9223372036854775808 ≤ c) (h1 : c ≤ 9223372036854775807) :
    Calls Tryd.prog 11 #[.int .i64 c] w fun e w' => e = .returned (.int .i64 (numF c)) ∧ Below w.heap.size w w' := by
  have r1 := pickF_range c 4611686018427387904 (by omega)
  have r2 := pickF_range c 8 (by omega)
  have r3 := pickF_range c 16 (by omega)
  obtain ⟨k, hk⟩ := Int.eq_ofNat_of_zero_le r2.1
  have hk8 : k < 8 := by omega
  have r4 := sizes_range k
  have r5 := pickF_range (pickF c 4611686018427387904 / 8) (sizes k) r4.1
  have HF : Hid (numF c = if 8 ≤ pickF c 16 then -(pickF (pickF c 4611686018427387904 / 8) (sizes k)) else pickF (pickF c 4611686018427387904 / 8) (sizes k)) := Lib.hid (by
    unfold numF; rw [hk]; rfl)
  have HK := Lib.hid hk
  clear hk
  go_enter Tryd.func11, Tryd.ntmps11
  go_wp2_with fail
  refine (pick_calls _ _ _ h0 h1 (by omega) (by omega)).mono ?_
  rintro e w' ⟨rfl, rfl⟩
  go_wp2_with fail
  refine (pick_calls _ _ _ h0 h1 (by omega) (by omega)).mono ?_
  rw [HK.out]
  rintro e w' ⟨rfl, rfl⟩
  go_wp2_with fail
  rw [row_get]
  refine (pick_calls _ _ _ (by omega) (by omega) (by omega) (by omega)).mono ?_
  rintro e w' ⟨rfl, rfl⟩
  go_wp2_with fail
  refine (pick_calls _ _ _ h0 h1 (by omega) (by omega)).mono ?_
  rintro e w' ⟨rfl, rfl⟩
  by_cases h8 : 8 ≤ pickF c 16
  all_goals
    go_wp2_with fail
    go_ret
    refine ⟨?_, (Below.refl _ _).alloc (Nat.le_refl _) _⟩
  · rw [HF.out, if_pos h8]; rfl
  · rw [HF.out, if_neg (by omega)]; rfl

theorem lt_of_cell {w : World} {a : Addr} {v : Value} (h : w.cell? a = some v) : a.block < w.heap.size := by
  obtain ⟨o, ho, _⟩ := cells_of_cell h
  exact (Array.getElem?_eq_some_iff.1 ho).1
theorem Table.lt {w : World} (h : Table w) : 0 < w.heap.size := lt_of_cell (h 0 (by omega))
theorem Table.below {w w' : World} {B : Nat} (h : Table w) (hB : Below B w w') (h0 : 0 < B) : Table w' := fun i hi => (hB.cell (p := ⟨0, i, none⟩) h0).trans (h i hi)

theorem s1 (w : World) : Calls Tryd.prog 12 #[.int .i64 (-64)] w fun e W' => e = .returned (.tuple #[.string ⟨#[127]⟩, .int .i64 0]) ∧ Below w.heap.size w W' :=
  putInt_yes (-64) w (by omega) (by omega)
theorem s2 (w : World) : Calls Tryd.prog 12 #[.int .i64 64] w fun e W' => e = .returned (.tuple #[.string ⟨#[128, 1]⟩, .int .i64 0]) ∧ Below w.heap.size w W' :=
  putInt_yes 64 w (by omega) (by omega)
theorem s3 (w : World) : Calls Tryd.prog 15 #[.string ⟨#[97, 172, 2, 98]⟩, .int .i64 1] w fun e w' => e = .returned (.tuple #[.int .i64 150, .int .i64 3, .int .i64 0]) ∧ w = w' :=
  int_some _ 1 w (by decide) (by decide) 150 3 (by decide)
theorem s4 (w : World) : Calls Tryd.prog 15 #[.string ⟨#[128, 0]⟩, .int .i64 0] w fun e w' => e = .returned (.tuple #[.int .i64 0, .int .i64 0, .int .i64 10]) ∧ w = w' :=
  int_none _ 0 w (by decide) (by decide) (by decide)
theorem s5 (w : World) : Calls Tryd.prog 19 #[.string ⟨#[97, 98]⟩] w fun e W' => e = .returned (.tuple #[.string ⟨#[4, 97, 98]⟩, .int .i64 0]) ∧ Below w.heap.size w W' :=
  putString_yes _ w (by decide)
theorem s6 (w : World) : Calls Tryd.prog 17 #[.string ⟨#[4, 97, 98, 99]⟩, .int .i64 0] w fun e w' => e = .returned (.tuple #[.string ⟨#[97, 98]⟩, .int .i64 3, .int .i64 0]) ∧ Below w.heap.size w w' :=
  string_some _ 0 w (by decide) (by decide) [97, 98] 3 (by decide)
theorem s7 (w : World) : Calls Tryd.prog 17 #[.string ⟨#[4, 97]⟩, .int .i64 0] w fun e w' => e = .returned (.tuple #[.string ⟨#[]⟩, .int .i64 0, .int .i64 10]) ∧ w = w' :=
  string_length _ 0 w (by decide) (by decide) 2 1 (by decide) (by decide)
theorem s8 (w : World) : Calls Tryd.prog 12 #[.int .i64 4611686018427387904] w fun e W' => e = .returned (.tuple #[.string ⟨#[]⟩, .int .i64 10]) ∧ w = W' :=
  putInt_high _ w (by omega)
theorem s9 (w : World) : Calls Tryd.prog 15 #[.string ⟨#[]⟩, .int .i64 1] w fun e w' => e = .returned (.tuple #[.int .i64 0, .int .i64 0, .int .i64 2]) ∧ w = w' :=
  int_past _ 1 w (by decide)
theorem s10 (w : World) (hT : Table w) : Calls Tryd.prog 21 #[.string ⟨#[49, 50, 51, 52, 53, 54, 55, 56, 57]⟩] w fun e w' => e = .returned (.int .i64 3808858755) ∧ w = w' :=
  sum_calls _ w hT (by decide)

set_option maxRecDepth 100000 in
set_option maxHeartbeats 1000000 in
theorem sane_calls (w : World) (hT : Table w) : Calls Tryd.prog 10 #[] w fun e w' => e = .returned (.bool true) ∧ Below w.heap.size w w' := by
  go_enter Tryd.func10, Tryd.ntmps10
  go_wp2_with fail
  refine (s1 _).mono ?_
  rintro e w1 ⟨rfl, hb1⟩
  go_wp2_with fail
  refine (s2 _).mono ?_
  rintro e w2 ⟨rfl, hb2⟩
  go_wp2_with fail
  refine (s3 _).mono ?_
  rintro e w' ⟨rfl, rfl⟩
  go_wp2_with fail
  refine (s4 _).mono ?_
  rintro e w' ⟨rfl, rfl⟩
  go_wp2_with fail
  refine (s5 _).mono ?_
  rintro e w3 ⟨rfl, hb3⟩
  go_wp2_with fail
  refine (s6 _).mono ?_
  rintro e w4 ⟨rfl, hb4⟩
  go_wp2_with fail
  refine (s7 _).mono ?_
  rintro e w' ⟨rfl, rfl⟩
  go_wp2_with fail
  refine (s8 _).mono ?_
  rintro e w' ⟨rfl, rfl⟩
  go_wp2_with fail
  refine (s9 _).mono ?_
  rintro e w' ⟨rfl, rfl⟩
  have hb : Below w.heap.size w w4 := ((hb1.trans (hb2.mono hb1.size)).trans (hb3.mono (Nat.le_trans hb1.size hb2.size))).trans (hb4.mono (Nat.le_trans (Nat.le_trans hb1.size hb2.size) hb3.size))
  have hT4 := hT.below hb hT.lt
  clear hb1 hb2 hb3 hb4
  go_wp2_with fail
  refine (s10 _ hT4).mono ?_
  rintro e w' ⟨rfl, rfl⟩
  go_wp2_with fail
  go_ret
  exact ⟨rfl, hb⟩

end Go.Proofs.YthhjdcpodaledaaDoor
