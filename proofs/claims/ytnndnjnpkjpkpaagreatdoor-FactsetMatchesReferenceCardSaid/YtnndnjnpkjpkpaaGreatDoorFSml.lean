/- Words for the walks of layer 5: facts as values, and contracts of the small functions of package fact, of the laws and of the reference implementation. -/
import Derived.Test.YtnndnjnpkjpkpaaGreatDoorWRefD
import Derived.Test.YtnndnjnpkjpkpaaGreatDoorFct
import Derived.Lib.Hide
import Derived.WalkKit
import Derived.WalkSpells
import Derived.WalkLawsBesides
import Derived.Below
import Derived.BigQuiet
import Derived.Deep.QuietTactic
import Derived.Deep.WholeRow
import Derived.Laws.StructEq
import Derived.Laws.ByValue
namespace Go.Proofs.YtnndnjnpkjpkpaaGreatDoor
open Go.RowKit

/-- A fact's cells: 17 numbers and a text. -/
abbrev factC (v : Nat → Int) (t : ByteArray) : Array Value := #[.int .i64 (v 0), .int .i64 (v 1), .int .i64 (v 2), .int .i64 (v 3), .int .i64 (v 4), .int .i64 (v 5), .int .i64 (v 6), .int .i64 (v 7), .int .i64 (v 8), .int .i64 (v 9), .int .i64 (v 10), .int .i64 (v 11), .int .i64 (v 12), .int .i64 (v 13), .int .i64 (v 14), .int .i64 (v 15), .int .i64 (v 16), .string t]
/-- A fact as a value. -/
abbrev factV (v : Nat → Int) (t : ByteArray) : Value := .agg (factC v t)
/-- A fact with a text, as the plain functions have it. -/
abbrev okT (v : Nat → Int) (t : ByteArray) : Bool := okB v (t.size : Int)
/-- The numbers are ints. -/
def Ints (v : Nat → Int) : Prop := ∀ i, i < 17 → -9223372036854775808 ≤ v i ∧ v i ≤ 9223372036854775807


/-! ### Ranges -/
def inB (n a b : Int) : Bool := decide (a ≤ n ∧ n ≤ b)
theorem holds_calls (a b n : Int) (w : World) : Calls Tryz.prog 79 #[.agg #[.int .i64 a, .int .i64 b], .int .i64 n] w fun e W' => e = .returned (.bool (inB n a b)) ∧ Below w.heap.size w W' := by
  by_cases h1 : a ≤ n
  · by_cases h2 : n ≤ b
    · have hr : inB n a b = true := decide_eq_true ⟨h1, h2⟩
      rw [hr]; clear hr
      go_enter Tryz.func79, Tryz.ntmps79
      go_wp2_with fail
      go_ret
      exact ⟨rfl, (Below.refl _ _).alloc (Nat.le_refl _) _⟩
    · have hr : inB n a b = false := decide_eq_false (fun h => h2 h.2)
      have h3 : b < n := by omega
      rw [hr]; clear hr h2
      go_enter Tryz.func79, Tryz.ntmps79
      go_wp2_with fail
      go_ret
      exact ⟨by simp; omega, (Below.refl _ _).alloc (Nat.le_refl _) _⟩
  · have hr : inB n a b = false := decide_eq_false (fun h => h1 h.1)
    have h3 : n < a := by omega
    rw [hr]; clear hr h1
    go_enter Tryz.func79, Tryz.ntmps79
    go_wp2_with fail
    go_ret
    exact ⟨rfl, (Below.refl _ _).alloc (Nat.le_refl _) _⟩
theorem within_calls (n a b : Int) (w : World) : Calls Tryz.prog 49 #[.int .i64 n, .int .i64 a, .int .i64 b] w fun e W' => e = .returned (.bool (inB n a b)) ∧ w = W' := by
  by_cases h1 : a ≤ n
  · by_cases h2 : n ≤ b
    · have hr : inB n a b = true := decide_eq_true ⟨h1, h2⟩
      rw [hr]; clear hr
      go_enter Tryz.func49, Tryz.ntmps49
      go_wp2_with fail
      go_ret
      exact ⟨rfl, rfl⟩
    · have hr : inB n a b = false := decide_eq_false (fun h => h2 h.2)
      have h3 : b < n := by omega
      rw [hr]; clear hr h2
      go_enter Tryz.func49, Tryz.ntmps49
      go_wp2_with fail
      go_ret
      exact ⟨by simp; omega, rfl⟩
  · have hr : inB n a b = false := decide_eq_false (fun h => h1 h.1)
    have h3 : n < a := by omega
    rw [hr]; clear hr h1
    go_enter Tryz.func49, Tryz.ntmps49
    go_wp2_with fail
    go_ret
    exact ⟨rfl, rfl⟩

theorem id_calls (n : Int) (w : World) : Calls Tryz.prog 64 #[.int .i64 n] w fun e W' => e = .returned (.bool (inB n 1 1000000)) ∧ w = W' := by
  go_enter Tryz.func64, Tryz.ntmps64
  go_wp2_with fail
  refine (within_calls _ _ _ _).mono ?_
  rintro e w' ⟨rfl, rfl⟩
  go_wp2_with fail
  go_ret
  exact ⟨rfl, rfl⟩
theorem period_calls (n : Int) (w : World) : Calls Tryz.prog 66 #[.int .i64 n] w fun e W' => e = .returned (.bool (inB n 0 1199)) ∧ w = W' := by
  go_enter Tryz.func66, Tryz.ntmps66
  go_wp2_with fail
  refine (within_calls _ _ _ _).mono ?_
  rintro e w' ⟨rfl, rfl⟩
  go_wp2_with fail
  go_ret
  exact ⟨rfl, rfl⟩
theorem territory_calls (n : Int) (w : World) : Calls Tryz.prog 65 #[.int .i64 n] w fun e W' => e = .returned (.bool (inB n 0 7)) ∧ w = W' := by
  go_enter Tryz.func65, Tryz.ntmps65
  go_wp2_with fail
  refine (within_calls _ _ _ _).mono ?_
  rintro e w' ⟨rfl, rfl⟩
  go_wp2_with fail
  go_ret
  exact ⟨rfl, rfl⟩

/-! ### Equality of facts -/
def eq18 (a0 a1 a2 a3 a4 a5 a6 a7 a8 a9 a10 a11 a12 a13 a14 a15 a16 b0 b1 b2 b3 b4 b5 b6 b7 b8 b9 b10 b11 b12 b13 b14 b15 b16 : Int) (s t : ByteArray) : Bool := decide (a0 = b0 ∧ a1 = b1 ∧ a2 = b2 ∧ a3 = b3 ∧ a4 = b4 ∧ a5 = b5 ∧ a6 = b6 ∧ a7 = b7 ∧ a8 = b8 ∧ a9 = b9 ∧ a10 = b10 ∧ a11 = b11 ∧ a12 = b12 ∧ a13 = b13 ∧ a14 = b14 ∧ a15 = b15 ∧ a16 = b16 ∧ s.toList = t.toList)
theorem toList_inj (s t : ByteArray) : s.toList = t.toList ↔ s = t := by
  rw [ByteArray.toList_eq, ByteArray.toList_eq]
  constructor
  · intro h; apply ByteArray.ext; exact Array.ext' h
  · rintro rfl; rfl
/-- All fields are the same. -/
def eqB (u v : Nat → Int) (s t : ByteArray) : Bool := eq18 (u 0) (u 1) (u 2) (u 3) (u 4) (u 5) (u 6) (u 7) (u 8) (u 9) (u 10) (u 11) (u 12) (u 13) (u 14) (u 15) (u 16) (v 0) (v 1) (v 2) (v 3) (v 4) (v 5) (v 6) (v 7) (v 8) (v 9) (v 10) (v 11) (v 12) (v 13) (v 14) (v 15) (v 16) s t
theorem eqB_iff (u v : Nat → Int) (s t : ByteArray) : eqB u v s t = true ↔ ((∀ i, i < 17 → u i = v i) ∧ s.toList = t.toList) := by
  unfold eqB eq18
  rw [decide_eq_true_eq]
  constructor
  · rintro ⟨h0, h1, h2, h3, h4, h5, h6, h7, h8, h9, h10, h11, h12, h13, h14, h15, h16, hs⟩
    refine ⟨fun i hi => ?_, hs⟩
    have hc : i = 0 ∨ i = 1 ∨ i = 2 ∨ i = 3 ∨ i = 4 ∨ i = 5 ∨ i = 6 ∨ i = 7 ∨ i = 8 ∨ i = 9 ∨ i = 10 ∨ i = 11 ∨ i = 12 ∨ i = 13 ∨ i = 14 ∨ i = 15 ∨ i = 16 := by omega
    rcases hc with rfl | rfl | rfl | rfl | rfl | rfl | rfl | rfl | rfl | rfl | rfl | rfl | rfl | rfl | rfl | rfl | rfl <;> assumption
  · rintro ⟨h, hs⟩
    exact ⟨h 0 (by omega), h 1 (by omega), h 2 (by omega), h 3 (by omega), h 4 (by omega), h 5 (by omega), h 6 (by omega), h 7 (by omega), h 8 (by omega), h 9 (by omega), h 10 (by omega), h 11 (by omega), h 12 (by omega), h 13 (by omega), h 14 (by omega), h 15 (by omega), h 16 (by omega), hs⟩
theorem fieldsFact : Tryz.prog.underlying 40 = some (.struct (Tryz.prog.fieldsOf 40)) := by kernel_rfl
theorem heldFact : Tryz.prog.stoodInHeld 40 = false := by kernel_rfl
theorem listFact : (Tryz.prog.fieldsOf 40).toList.map (fun f => (f.name != "_", f.type, f.offset)) = [(true, 3, 0), (true, 3, 1), (true, 3, 2), (true, 3, 3), (true, 3, 4), (true, 3, 5), (true, 3, 6), (true, 3, 7), (true, 3, 8), (true, 3, 9), (true, 3, 10), (true, 3, 11), (true, 3, 12), (true, 3, 13), (true, 3, 14), (true, 3, 15), (true, 3, 16), (true, 9, 17)] := by kernel_rfl
/-- Equality of fields, by what it takes of each. -/
def eqPl (d : Nat) (xs ys : Array Value) : List (Bool × TypeId × Nat) → Sem Bool
  | [] => pure true
  | f :: fs =>
    if f.1 = true then do
      let a ← part f.2.1 xs f.2.2
      let b ← part f.2.1 ys f.2.2
      let r ← Op.equalIn d f.2.1 a b
      if (!r) = true then pure false else eqPl d xs ys fs
    else eqPl d xs ys fs
theorem eqFields_pl (d : Nat) (xs ys : Array Value) : ∀ fs : List Field, Op.eqFields d xs ys fs = eqPl d xs ys (fs.map fun f => (f.name != "_", f.type, f.offset))
  | [] => rfl
  | f :: fs => by
    unfold Op.eqFields
    rw [List.map_cons]
    unfold eqPl
    by_cases h : f.name = "_"
    · simp [h, eqFields_pl d xs ys fs]
    · simp [h, eqFields_pl d xs ys fs]
theorem part_int (xs : Array Value) (o : Nat) (x : Value) (w : World) (h : xs[o]? = some x) : (part 3 xs o).run Tryz.prog w = .ok x w := by
  simp [part, Sem.run_bind, Tryz.isAgg3, h, Result.andThen]
theorem part_str (xs : Array Value) (o : Nat) (x : Value) (w : World) (h : xs[o]? = some x) : (part 9 xs o).run Tryz.prog w = .ok x w := by
  simp [part, Sem.run_bind, Tryz.isAgg9, h, Result.andThen]
theorem eqPl_int (xs ys : Array Value) (o : Nat) (a b : Int) (w : World) (fs : List (Bool × TypeId × Nat)) (h1 : xs[o]? = some (.int .i64 a)) (h2 : ys[o]? = some (.int .i64 b)) :
    (eqPl 9999 xs ys ((true, 3, o) :: fs)).run Tryz.prog w = if a = b then (eqPl 9999 xs ys fs).run Tryz.prog w else .ok false w := by
  conv => lhs; unfold eqPl
  simp only [if_true, Sem.run_bind, part_int xs o _ w h1, part_int ys o _ w h2, Result.andThen_ok, run_equalIn_int w 9998 3 .i64 .i64 a b Tryz.underlying3]
  by_cases h : a = b
  · rw [if_pos h, beq_iff_eq.2 h]; simp
  · rw [if_neg h, beq_eq_false_iff_ne.2 h]; simp
theorem eqPl_str (xs ys : Array Value) (o : Nat) (a b : ByteArray) (w : World) (h1 : xs[o]? = some (.string a)) (h2 : ys[o]? = some (.string b)) :
    (eqPl 9999 xs ys [(true, 9, o)]).run Tryz.prog w = .ok (decide (a.toList = b.toList)) w := by
  unfold eqPl
  simp only [if_true, Sem.run_bind, part_str xs o _ w h1, part_str ys o _ w h2, Result.andThen_ok, run_equalIn_string w 9998 9 a b Tryz.underlying9]
  by_cases h : a.toList = b.toList
  · rw [decide_eq_true h, beq_iff_eq.2 h]; rfl
  · rw [decide_eq_false h, beq_eq_false_iff_ne.2 h]; rfl
set_option maxRecDepth 100000 in
theorem eqFact (a0 a1 a2 a3 a4 a5 a6 a7 a8 a9 a10 a11 a12 a13 a14 a15 a16 b0 b1 b2 b3 b4 b5 b6 b7 b8 b9 b10 b11 b12 b13 b14 b15 b16 : Int) (s t : ByteArray) (w : World) :
    (Op.equalIn 10000 40 (.agg #[.int .i64 a0, .int .i64 a1, .int .i64 a2, .int .i64 a3, .int .i64 a4, .int .i64 a5, .int .i64 a6, .int .i64 a7, .int .i64 a8, .int .i64 a9, .int .i64 a10, .int .i64 a11, .int .i64 a12, .int .i64 a13, .int .i64 a14, .int .i64 a15, .int .i64 a16, .string s]) (.agg #[.int .i64 b0, .int .i64 b1, .int .i64 b2, .int .i64 b3, .int .i64 b4, .int .i64 b5, .int .i64 b6, .int .i64 b7, .int .i64 b8, .int .i64 b9, .int .i64 b10, .int .i64 b11, .int .i64 b12, .int .i64 b13, .int .i64 b14, .int .i64 b15, .int .i64 b16, .string t])).run Tryz.prog w = .ok (eq18 a0 a1 a2 a3 a4 a5 a6 a7 a8 a9 a10 a11 a12 a13 a14 a15 a16 b0 b1 b2 b3 b4 b5 b6 b7 b8 b9 b10 b11 b12 b13 b14 b15 b16 s t) w := by
  rw [run_equalIn_agg w 9999 40 _ _ fieldsFact heldFact, eqFields_pl, listFact]
  rw [eqPl_int _ _ 0 a0 b0 w _ rfl rfl]
  by_cases h0 : a0 = b0
  case neg => rw [if_neg h0]; congr 1; unfold eq18; symm; apply decide_eq_false; rintro ⟨g, -⟩; exact h0 g
  rw [if_pos h0]
  rw [eqPl_int _ _ 1 a1 b1 w _ rfl rfl]
  by_cases h1 : a1 = b1
  case neg => rw [if_neg h1]; congr 1; unfold eq18; symm; apply decide_eq_false; rintro ⟨-, g, -⟩; exact h1 g
  rw [if_pos h1]
  rw [eqPl_int _ _ 2 a2 b2 w _ rfl rfl]
  by_cases h2 : a2 = b2
  case neg => rw [if_neg h2]; congr 1; unfold eq18; symm; apply decide_eq_false; rintro ⟨-, -, g, -⟩; exact h2 g
  rw [if_pos h2]
  rw [eqPl_int _ _ 3 a3 b3 w _ rfl rfl]
  by_cases h3 : a3 = b3
  case neg => rw [if_neg h3]; congr 1; unfold eq18; symm; apply decide_eq_false; rintro ⟨-, -, -, g, -⟩; exact h3 g
  rw [if_pos h3]
  rw [eqPl_int _ _ 4 a4 b4 w _ rfl rfl]
  by_cases h4 : a4 = b4
  case neg => rw [if_neg h4]; congr 1; unfold eq18; symm; apply decide_eq_false; rintro ⟨-, -, -, -, g, -⟩; exact h4 g
  rw [if_pos h4]
  rw [eqPl_int _ _ 5 a5 b5 w _ rfl rfl]
  by_cases h5 : a5 = b5
  case neg => rw [if_neg h5]; congr 1; unfold eq18; symm; apply decide_eq_false; rintro ⟨-, -, -, -, -, g, -⟩; exact h5 g
  rw [if_pos h5]
  rw [eqPl_int _ _ 6 a6 b6 w _ rfl rfl]
  by_cases h6 : a6 = b6
  case neg => rw [if_neg h6]; congr 1; unfold eq18; symm; apply decide_eq_false; rintro ⟨-, -, -, -, -, -, g, -⟩; exact h6 g
  rw [if_pos h6]
  rw [eqPl_int _ _ 7 a7 b7 w _ rfl rfl]
  by_cases h7 : a7 = b7
  case neg => rw [if_neg h7]; congr 1; unfold eq18; symm; apply decide_eq_false; rintro ⟨-, -, -, -, -, -, -, g, -⟩; exact h7 g
  rw [if_pos h7]
  rw [eqPl_int _ _ 8 a8 b8 w _ rfl rfl]
  by_cases h8 : a8 = b8
  case neg => rw [if_neg h8]; congr 1; unfold eq18; symm; apply decide_eq_false; rintro ⟨-, -, -, -, -, -, -, -, g, -⟩; exact h8 g
  rw [if_pos h8]
  rw [eqPl_int _ _ 9 a9 b9 w _ rfl rfl]
  by_cases h9 : a9 = b9
  case neg => rw [if_neg h9]; congr 1; unfold eq18; symm; apply decide_eq_false; rintro ⟨-, -, -, -, -, -, -, -, -, g, -⟩; exact h9 g
  rw [if_pos h9]
  rw [eqPl_int _ _ 10 a10 b10 w _ rfl rfl]
  by_cases h10 : a10 = b10
  case neg => rw [if_neg h10]; congr 1; unfold eq18; symm; apply decide_eq_false; rintro ⟨-, -, -, -, -, -, -, -, -, -, g, -⟩; exact h10 g
  rw [if_pos h10]
  rw [eqPl_int _ _ 11 a11 b11 w _ rfl rfl]
  by_cases h11 : a11 = b11
  case neg => rw [if_neg h11]; congr 1; unfold eq18; symm; apply decide_eq_false; rintro ⟨-, -, -, -, -, -, -, -, -, -, -, g, -⟩; exact h11 g
  rw [if_pos h11]
  rw [eqPl_int _ _ 12 a12 b12 w _ rfl rfl]
  by_cases h12 : a12 = b12
  case neg => rw [if_neg h12]; congr 1; unfold eq18; symm; apply decide_eq_false; rintro ⟨-, -, -, -, -, -, -, -, -, -, -, -, g, -⟩; exact h12 g
  rw [if_pos h12]
  rw [eqPl_int _ _ 13 a13 b13 w _ rfl rfl]
  by_cases h13 : a13 = b13
  case neg => rw [if_neg h13]; congr 1; unfold eq18; symm; apply decide_eq_false; rintro ⟨-, -, -, -, -, -, -, -, -, -, -, -, -, g, -⟩; exact h13 g
  rw [if_pos h13]
  rw [eqPl_int _ _ 14 a14 b14 w _ rfl rfl]
  by_cases h14 : a14 = b14
  case neg => rw [if_neg h14]; congr 1; unfold eq18; symm; apply decide_eq_false; rintro ⟨-, -, -, -, -, -, -, -, -, -, -, -, -, -, g, -⟩; exact h14 g
  rw [if_pos h14]
  rw [eqPl_int _ _ 15 a15 b15 w _ rfl rfl]
  by_cases h15 : a15 = b15
  case neg => rw [if_neg h15]; congr 1; unfold eq18; symm; apply decide_eq_false; rintro ⟨-, -, -, -, -, -, -, -, -, -, -, -, -, -, -, g, -⟩; exact h15 g
  rw [if_pos h15]
  rw [eqPl_int _ _ 16 a16 b16 w _ rfl rfl]
  by_cases h16 : a16 = b16
  case neg => rw [if_neg h16]; congr 1; unfold eq18; symm; apply decide_eq_false; rintro ⟨-, -, -, -, -, -, -, -, -, -, -, -, -, -, -, -, g, -⟩; exact h16 g
  rw [if_pos h16]
  rw [eqPl_str _ _ 17 s t w rfl rfl]
  congr 1
  unfold eq18
  apply decide_eq_decide.2
  constructor
  · intro h; exact ⟨h0, h1, h2, h3, h4, h5, h6, h7, h8, h9, h10, h11, h12, h13, h14, h15, h16, h⟩
  · rintro ⟨-, -, -, -, -, -, -, -, -, -, -, -, -, -, -, -, -, h⟩; exact h

end Go.Proofs.YtnndnjnpkjpkpaaGreatDoor
