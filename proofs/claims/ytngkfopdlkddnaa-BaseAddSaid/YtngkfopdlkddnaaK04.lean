/- Words for the walks of layer 5: facts as values, and contracts of the small functions of package fact, of the laws and of the reference implementation. | Contracts of package fact's numbers; words for regions whose calls make memory. | The contracts of package fact's Same and of the laws' rate. -/
import Derived.Test.YtngkfopdlkddnaaK03
import Derived.Lib.Hide
import Derived.WalkKit
import Derived.WalkSpells
import Derived.WalkLawsBesides
import Derived.Below
import Derived.BigQuiet
import Derived.Deep.QuietTactic
import Derived.Deep.WholeRow
import Derived.Laws.StructEq
import Derived.Laws.ByValue
import Derived.StillTailTactics
import Derived.Deep.Cut
namespace Go.Proofs.Ytngkfopdlkddnaa
open Go.RowKit
/-- A fact's cells: 17 numbers and a text. -/
abbrev factC (v : Nat → Int) (t : ByteArray) : Array Value := #[.int .i64 (v 0), .int .i64 (v 1), .int .i64 (v 2), .int .i64 (v 3), .int .i64 (v 4), .int .i64 (v 5), .int .i64 (v 6), .int .i64 (v 7), .int .i64 (v 8), .int .i64 (v 9), .int .i64 (v 10), .int .i64 (v 11), .int .i64 (v 12), .int .i64 (v 13), .int .i64 (v 14), .int .i64 (v 15), .int .i64 (v 16), .string t]
/-- A fact as a value. -/
abbrev factV (v : Nat → Int) (t : ByteArray) : Value := .agg (factC v t)
/-- A fact with a text, as the plain functions have it. -/
abbrev okT (v : Nat → Int) (t : ByteArray) : Bool := okB v (t.size : Int)
/-- The numbers are ints. -/
def Ints (v : Nat → Int) : Prop := ∀ i, i < 17 → -9223372036854775808 ≤ v i ∧ v i ≤ 9223372036854775807


/-! ### Ranges -/
def inB (n a b : Int) : Bool := decide (a ≤ n ∧ n ≤ b)
theorem holds_calls (a b n : Int) (w : World) : Calls Try.prog 31 #[.agg #[.int .i64 a, .int .i64 b], .int .i64 n] w fun e W' => e = .returned (.bool (inB n a b)) ∧ Below w.heap.size w W' := by
  by_cases h1 : a ≤ n
  · by_cases h2 : n ≤ b
    · have hr : inB n a b = true := decide_eq_true ⟨h1, h2⟩
      rw [hr]; clear hr
      go_enter Try.func31, Try.ntmps31
      go_wp2_with fail
      go_ret
      exact ⟨rfl, (Below.refl _ _).alloc (Nat.le_refl _) _⟩
    · have hr : inB n a b = false := decide_eq_false (fun h => h2 h.2)
      have h3 : b < n := by omega
      rw [hr]; clear hr h2
      go_enter Try.func31, Try.ntmps31
      go_wp2_with fail
      go_ret
      exact ⟨by simp; omega, (Below.refl _ _).alloc (Nat.le_refl _) _⟩
  · have hr : inB n a b = false := decide_eq_false (fun h => h1 h.1)
    have h3 : n < a := by omega
    rw [hr]; clear hr h1
    go_enter Try.func31, Try.ntmps31
    go_wp2_with fail
    go_ret
    exact ⟨rfl, (Below.refl _ _).alloc (Nat.le_refl _) _⟩
/-! ### Equality of facts -/
def eq18 (a0 a1 a2 a3 a4 a5 a6 a7 a8 a9 a10 a11 a12 a13 a14 a15 a16 b0 b1 b2 b3 b4 b5 b6 b7 b8 b9 b10 b11 b12 b13 b14 b15 b16 : Int) (s t : ByteArray) : Bool := decide (a0 = b0 ∧ a1 = b1 ∧ a2 = b2 ∧ a3 = b3 ∧ a4 = b4 ∧ a5 = b5 ∧ a6 = b6 ∧ a7 = b7 ∧ a8 = b8 ∧ a9 = b9 ∧ a10 = b10 ∧ a11 = b11 ∧ a12 = b12 ∧ a13 = b13 ∧ a14 = b14 ∧ a15 = b15 ∧ a16 = b16 ∧ s.toList = t.toList)
theorem toList_inj (s t : ByteArray) : s.toList = t.toList ↔ s = t := by
  rw [ByteArray.toList_eq, ByteArray.toList_eq]
  constructor
  · intro h; apply ByteArray.ext; exact Array.ext' h
  · rintro rfl; rfl
/-- All fields are the same. -/
def eqB (u v : Nat → Int) (s t : ByteArray) : Bool := eq18 (u 0) (u 1) (u 2) (u 3) (u 4) (u 5) (u 6) (u 7) (u 8) (u 9) (u 10) (u 11) (u 12) (u 13) (u 14) (u 15) (u 16) (v 0) (v 1) (v 2) (v 3) (v 4) (v 5) (v 6) (v 7) (v 8) (v 9) (v 10) (v 11) (v 12) (v 13) (v 14) (v 15) (v 16) s t
theorem eqB_iff (u v : Nat → Int) (s t : ByteArray) : eqB u v s t = true ↔ ((∀ i, i < 17 → u i = v i) ∧ s.toList = t.toList) := by
  unfold eqB eq18
  rw [decide_eq_true_eq]
  constructor
  · rintro ⟨h0, h1, h2, h3, h4, h5, h6, h7, h8, h9, h10, h11, h12, h13, h14, h15, h16, hs⟩
    refine ⟨fun i hi => ?_, hs⟩
    have hc : i = 0 ∨ i = 1 ∨ i = 2 ∨ i = 3 ∨ i = 4 ∨ i = 5 ∨ i = 6 ∨ i = 7 ∨ i = 8 ∨ i = 9 ∨ i = 10 ∨ i = 11 ∨ i = 12 ∨ i = 13 ∨ i = 14 ∨ i = 15 ∨ i = 16 := by omega
    rcases hc with rfl | rfl | rfl | rfl | rfl | rfl | rfl | rfl | rfl | rfl | rfl | rfl | rfl | rfl | rfl | rfl | rfl <;> assumption
  · rintro ⟨h, hs⟩
    exact ⟨h 0 (by omega), h 1 (by omega), h 2 (by omega), h 3 (by omega), h 4 (by omega), h 5 (by omega), h 6 (by omega), h 7 (by omega), h 8 (by omega), h 9 (by omega), h 10 (by omega), h 11 (by omega), h 12 (by omega), h 13 (by omega), h 14 (by omega), h 15 (by omega), h 16 (by omega), hs⟩
theorem fieldsFact : Try.prog.underlying 29 = some (.struct (Try.prog.fieldsOf 29)) := by kernel_rfl
theorem heldFact : Try.prog.stoodInHeld 29 = false := by kernel_rfl
theorem listFact : (Try.prog.fieldsOf 29).toList.map (fun f => (f.name != "_", f.type, f.offset)) = [(true, 3, 0), (true, 3, 1), (true, 3, 2), (true, 3, 3), (true, 3, 4), (true, 3, 5), (true, 3, 6), (true, 3, 7), (true, 3, 8), (true, 3, 9), (true, 3, 10), (true, 3, 11), (true, 3, 12), (true, 3, 13), (true, 3, 14), (true, 3, 15), (true, 3, 16), (true, 9, 17)] := by kernel_rfl
/-- Equality of fields, by what it takes of each. -/
def eqPl (d : Nat) (xs ys : Array Value) : List (Bool × TypeId × Nat) → Sem Bool
  | [] => pure true
  | f :: fs =>
    if f.1 = true then do
      let a ← part f.2.1 xs f.2.2
      let b ← part f.2.1 ys f.2.2
      let r ← Op.equalIn d f.2.1 a b
      if (!r) = true then pure false else eqPl d xs ys fs
    else eqPl d xs ys fs
theorem eqFields_pl (d : Nat) (xs ys : Array Value) : ∀ fs : List Field, Op.eqFields d xs ys fs = eqPl d xs ys (fs.map fun f => (f.name != "_", f.type, f.offset))
  | [] => rfl
  | f :: fs => by
    unfold Op.eqFields
    rw [List.map_cons]
    unfold eqPl
    by_cases h : f.name = "_"
    · simp [h, eqFields_pl d xs ys fs]
    · simp [h, eqFields_pl d xs ys fs]
theorem part_int (xs : Array Value) (o : Nat) (x : Value) (w : World) (h : xs[o]? = some x) : (part 3 xs o).run Try.prog w = .ok x w := by
  simp [part, Sem.run_bind, Try.isAgg3, h, Result.andThen]
theorem part_str (xs : Array Value) (o : Nat) (x : Value) (w : World) (h : xs[o]? = some x) : (part 9 xs o).run Try.prog w = .ok x w := by
  simp [part, Sem.run_bind, Try.isAgg9, h, Result.andThen]
theorem eqPl_int (xs ys : Array Value) (o : Nat) (a b : Int) (w : World) (fs : List (Bool × TypeId × Nat)) (h1 : xs[o]? = some (.int .i64 a)) (h2 : ys[o]? = some (.int .i64 b)) :
    (eqPl 9999 xs ys ((true, 3, o) :: fs)).run Try.prog w = if a = b then (eqPl 9999 xs ys fs).run Try.prog w else .ok false w := by
  conv => lhs; unfold eqPl
  simp only [if_true, Sem.run_bind, part_int xs o _ w h1, part_int ys o _ w h2, Result.andThen_ok, run_equalIn_int w 9998 3 .i64 .i64 a b Try.underlying3]
  by_cases h : a = b
  · rw [if_pos h, beq_iff_eq.2 h]; simp
  · rw [if_neg h, beq_eq_false_iff_ne.2 h]; simp
theorem eqPl_str (xs ys : Array Value) (o : Nat) (a b : ByteArray) (w : World) (h1 : xs[o]? = some (.string a)) (h2 : ys[o]? = some (.string b)) :
    (eqPl 9999 xs ys [(true, 9, o)]).run Try.prog w = .ok (decide (a.toList = b.toList)) w := by
  unfold eqPl
  simp only [if_true, Sem.run_bind, part_str xs o _ w h1, part_str ys o _ w h2, Result.andThen_ok, run_equalIn_string w 9998 9 a b Try.underlying9]
  by_cases h : a.toList = b.toList
  · rw [decide_eq_true h, beq_iff_eq.2 h]; rfl
  · rw [decide_eq_false h, beq_eq_false_iff_ne.2 h]; rfl
set_option maxRecDepth 100000 in
theorem eqFact (a0 a1 a2 a3 a4 a5 a6 a7 a8 a9 a10 a11 a12 a13 a14 a15 a16 b0 b1 b2 b3 b4 b5 b6 b7 b8 b9 b10 b11 b12 b13 b14 b15 b16 : Int) (s t : ByteArray) (w : World) :
    (Op.equalIn 10000 29 (.agg #[.int .i64 a0, .int .i64 a1, .int .i64 a2, .int .i64 a3, .int .i64 a4, .int .i64 a5, .int .i64 a6, .int .i64 a7, .int .i64 a8, .int .i64 a9, .int .i64 a10, .int .i64 a11, .int .i64 a12, .int .i64 a13, .int .i64 a14, .int .i64 a15, .int .i64 a16, .string s]) (.agg #[.int .i64 b0, .int .i64 b1, .int .i64 b2, .int .i64 b3, .int .i64 b4, .int .i64 b5, .int .i64 b6, .int .i64 b7, .int .i64 b8, .int .i64 b9, .int .i64 b10, .int .i64 b11, .int .i64 b12, .int .i64 b13, .int .i64 b14, .int .i64 b15, .int .i64 b16, .string t])).run Try.prog w = .ok (eq18 a0 a1 a2 a3 a4 a5 a6 a7 a8 a9 a10 a11 a12 a13 a14 a15 a16 b0 b1 b2 b3 b4 b5 b6 b7 b8 b9 b10 b11 b12 b13 b14 b15 b16 s t) w := by
  rw [run_equalIn_agg w 9999 29 _ _ fieldsFact heldFact, eqFields_pl, listFact]
  rw [eqPl_int _ _ 0 a0 b0 w _ rfl rfl]
  by_cases h0 : a0 = b0
  case neg => rw [if_neg h0]; congr 1; unfold eq18; symm; apply decide_eq_false; rintro ⟨g, -⟩; exact h0 g
  rw [if_pos h0]
  rw [eqPl_int _ _ 1 a1 b1 w _ rfl rfl]
  by_cases h1 : a1 = b1
  case neg => rw [if_neg h1]; congr 1; unfold eq18; symm; apply decide_eq_false; rintro ⟨-, g, -⟩; exact h1 g
  rw [if_pos h1]
  rw [eqPl_int _ _ 2 a2 b2 w _ rfl rfl]
  by_cases h2 : a2 = b2
  case neg => rw [if_neg h2]; congr 1; unfold eq18; symm; apply decide_eq_false; rintro ⟨-, -, g, -⟩; exact h2 g
  rw [if_pos h2]
  rw [eqPl_int _ _ 3 a3 b3 w _ rfl rfl]
  by_cases h3 : a3 = b3
  case neg => rw [if_neg h3]; congr 1; unfold eq18; symm; apply decide_eq_false; rintro ⟨-, -, -, g, -⟩; exact h3 g
  rw [if_pos h3]
  rw [eqPl_int _ _ 4 a4 b4 w _ rfl rfl]
  by_cases h4 : a4 = b4
  case neg => rw [if_neg h4]; congr 1; unfold eq18; symm; apply decide_eq_false; rintro ⟨-, -, -, -, g, -⟩; exact h4 g
  rw [if_pos h4]
  rw [eqPl_int _ _ 5 a5 b5 w _ rfl rfl]
  by_cases h5 : a5 = b5
  case neg => rw [if_neg h5]; congr 1; unfold eq18; symm; apply decide_eq_false; rintro ⟨-, -, -, -, -, g, -⟩; exact h5 g
  rw [if_pos h5]
  rw [eqPl_int _ _ 6 a6 b6 w _ rfl rfl]
  by_cases h6 : a6 = b6
  case neg => rw [if_neg h6]; congr 1; unfold eq18; symm; apply decide_eq_false; rintro ⟨-, -, -, -, -, -, g, -⟩; exact h6 g
  rw [if_pos h6]
  rw [eqPl_int _ _ 7 a7 b7 w _ rfl rfl]
  by_cases h7 : a7 = b7
  case neg => rw [if_neg h7]; congr 1; unfold eq18; symm; apply decide_eq_false; rintro ⟨-, -, -, -, -, -, -, g, -⟩; exact h7 g
  rw [if_pos h7]
  rw [eqPl_int _ _ 8 a8 b8 w _ rfl rfl]
  by_cases h8 : a8 = b8
  case neg => rw [if_neg h8]; congr 1; unfold eq18; symm; apply decide_eq_false; rintro ⟨-, -, -, -, -, -, -, -, g, -⟩; exact h8 g
  rw [if_pos h8]
  rw [eqPl_int _ _ 9 a9 b9 w _ rfl rfl]
  by_cases h9 : a9 = b9
  case neg => rw [if_neg h9]; congr 1; unfold eq18; symm; apply decide_eq_false; rintro ⟨-, -, -, -, -, -, -, -, -, g, -⟩; exact h9 g
  rw [if_pos h9]
  rw [eqPl_int _ _ 10 a10 b10 w _ rfl rfl]
  by_cases h10 : a10 = b10
  case neg => rw [if_neg h10]; congr 1; unfold eq18; symm; apply decide_eq_false; rintro ⟨-, -, -, -, -, -, -, -, -, -, g, -⟩; exact h10 g
  rw [if_pos h10]
  rw [eqPl_int _ _ 11 a11 b11 w _ rfl rfl]
  by_cases h11 : a11 = b11
  case neg => rw [if_neg h11]; congr 1; unfold eq18; symm; apply decide_eq_false; rintro ⟨-, -, -, -, -, -, -, -, -, -, -, g, -⟩; exact h11 g
  rw [if_pos h11]
  rw [eqPl_int _ _ 12 a12 b12 w _ rfl rfl]
  by_cases h12 : a12 = b12
  case neg => rw [if_neg h12]; congr 1; unfold eq18; symm; apply decide_eq_false; rintro ⟨-, -, -, -, -, -, -, -, -, -, -, -, g, -⟩; exact h12 g
  rw [if_pos h12]
  rw [eqPl_int _ _ 13 a13 b13 w _ rfl rfl]
  by_cases h13 : a13 = b13
  case neg => rw [if_neg h13]; congr 1; unfold eq18; symm; apply decide_eq_false; rintro ⟨-, -, -, -, -, -, -, -, -, -, -, -, -, g, -⟩; exact h13 g
  rw [if_pos h13]
  rw [eqPl_int _ _ 14 a14 b14 w _ rfl rfl]
  by_cases h14 : a14 = b14
  case neg => rw [if_neg h14]; congr 1; unfold eq18; symm; apply decide_eq_false; rintro ⟨-, -, -, -, -, -, -, -, -, -, -, -, -, -, g, -⟩; exact h14 g
  rw [if_pos h14]
  rw [eqPl_int _ _ 15 a15 b15 w _ rfl rfl]
  by_cases h15 : a15 = b15
  case neg => rw [if_neg h15]; congr 1; unfold eq18; symm; apply decide_eq_false; rintro ⟨-, -, -, -, -, -, -, -, -, -, -, -, -, -, -, g, -⟩; exact h15 g
  rw [if_pos h15]
  rw [eqPl_int _ _ 16 a16 b16 w _ rfl rfl]
  by_cases h16 : a16 = b16
  case neg => rw [if_neg h16]; congr 1; unfold eq18; symm; apply decide_eq_false; rintro ⟨-, -, -, -, -, -, -, -, -, -, -, -, -, -, -, -, g, -⟩; exact h16 g
  rw [if_pos h16]
  rw [eqPl_str _ _ 17 s t w rfl rfl]
  congr 1
  unfold eq18
  apply decide_eq_decide.2
  constructor
  · intro h; exact ⟨h0, h1, h2, h3, h4, h5, h6, h7, h8, h9, h10, h11, h12, h13, h14, h15, h16, h⟩
  · rintro ⟨-, -, -, -, -, -, -, -, -, -, -, -, -, -, -, -, -, h⟩; exact h

end Go.Proofs.Ytngkfopdlkddnaa
namespace Go.Proofs.Ytngkfopdlkddnaa
open Go.RowKit

/-- Where a fact at b keeps its numbers, its first cell the o-th of the block. -/
def ptrL (b o : Nat) : List Value := (List.range 17).map fun i => .pointer (some ⟨b, o + i, none⟩)
theorem ptrL_lit (b o : Nat) : (ptrL b o).toArray = #[.pointer (some ⟨b, o + 0, none⟩), .pointer (some ⟨b, o + 1, none⟩), .pointer (some ⟨b, o + 2, none⟩), .pointer (some ⟨b, o + 3, none⟩), .pointer (some ⟨b, o + 4, none⟩), .pointer (some ⟨b, o + 5, none⟩), .pointer (some ⟨b, o + 6, none⟩), .pointer (some ⟨b, o + 7, none⟩), .pointer (some ⟨b, o + 8, none⟩), .pointer (some ⟨b, o + 9, none⟩), .pointer (some ⟨b, o + 10, none⟩), .pointer (some ⟨b, o + 11, none⟩), .pointer (some ⟨b, o + 12, none⟩), .pointer (some ⟨b, o + 13, none⟩), .pointer (some ⟨b, o + 14, none⟩), .pointer (some ⟨b, o + 15, none⟩), .pointer (some ⟨b, o + 16, none⟩)] := rfl
theorem ptrL_one (b o : Nat) : (ptrL b o).toArray.all (·.oneCell') = true := by
  rw [Array.all_eq_true_iff_forall_mem]
  intro x hx
  obtain ⟨y, _, rfl⟩ := List.mem_map.1 (List.mem_toArray.1 hx)
  rfl
theorem below_drewN {B : Nat} {a w : World} (h : Below B a w) (n : Nat) : Below B a (w.drewN n) := ⟨h.os, h.tape, h.output, h.size, h.block⟩
theorem below_setRow' {B : Nat} {a w : World} (h : Below B a w) (g : Nat) (cs : Array Value) (hg : B ≤ g) : Below B a (w.setRow g cs) :=
  h.trans ⟨rfl, rfl, rfl, by simp, fun k hk => setRow_other _ _ _ _ (by omega)⟩
theorem heap_new (w : World) (o : Obj) : (w.alloc o).heap[w.heap.size]? = some o := by
  show (w.heap.push o)[w.heap.size]? = some o
  simp

/-! ### Regions whose calls make memory: nothing that was there changes -/
/-- Nothing that was there has changed. -/
def Hl (w0 w : World) : Prop := Below w0.heap.size w0 w
/-- The worlds in which nothing of w0 has changed. -/
def Wl (w0 : World) : Type := {w : World // Hl w0 w}
theorem Hl.refl (w : World) : Hl w w := Below.refl _ _
instance (w0 : World) : Nonempty (Wl w0) := ⟨⟨w0, Hl.refl _⟩⟩
theorem Hl.step {w0 w w' : World} (h : Hl w0 w) (hb : Below w.heap.size w w') : Hl w0 w' := Below.trans h (hb.mono (Below.size h))
theorem Hl.cell {w0 w : World} (h : Hl w0 w) {b o : Nat} {x : Value} (hc : w0.cell? ⟨b, o, none⟩ = some x) : w.cell? ⟨b, o, none⟩ = some x :=
  (Below.cell (p := ⟨b, o, none⟩) h (World.block_lt_of_cell? w0 _ hc)).trans hc
theorem Hl.row {w0 w : World} (h : Hl w0 w) {b : Nat} {x : Obj} (hc : w0.heap[b]? = some x) : w.heap[b]? = some x :=
  (Below.block h b (Array.getElem?_eq_some_iff.1 hc).1).trans hc
theorem wp_region_hl {ops : List Oper} {id : Nat} {Q : Exit → Act → World → Prop} {a : Act} {w : World} (w0 : World) (h0 : Hl w0 w) (hm : Try.prog.follows .mixedOrders = true) (hB : Region.lexB .any ops.toArray = true)
    (h : wpQuiet Try.prog ops.toArray (fun w' => ∃ x : Wl w0, w' = x.1) (fun a' => ∀ w', Hl w0 w' → Q .normal a' w') ops a) : (Code.region id ops.toArray true).wp Try.prog Q a w := by
  have e : (fun a' => ∀ w', Hl w0 w' → Q .normal a' w') = (fun a' => ∀ w', (∃ x : Wl w0, w' = x.1) → Q .normal a' w') := by
    funext a'
    apply propext
    constructor
    · rintro hh w' ⟨x, rfl⟩; exact hh _ x.2
    · intro hh w' h1; exact hh w' ⟨⟨w', h1⟩, rfl⟩
  rw [e] at h
  exact wp_region_quiet (C := fun w' => ∃ x : Wl w0, w' = x.1) hm hB ⟨⟨_, Below.trans h0 ((Below.refl _ w).drew)⟩, rfl⟩ h
theorem hl_call {w0 : World} {x : Wl w0} {f : FuncId} {args : Array Value} {v : Value} (h : Calls Try.prog f args x.1 fun e w' => e = .returned v ∧ Below x.1.heap.size x.1 w') :
    Calls Try.prog f args x.1 fun e w'' => e = .returned v ∧ ∃ y : Wl w0, w'' = y.1 :=
  h.mono fun _ w' ⟨he, hb⟩ => ⟨he, ⟨w', Hl.step x.2 hb⟩, rfl⟩
theorem hl_same {w0 : World} {x : Wl w0} {f : FuncId} {args : Array Value} {v : Value} (h : Calls Try.prog f args x.1 fun e w' => e = .returned v ∧ x.1 = w') :
    Calls Try.prog f args x.1 fun e w'' => e = .returned v ∧ ∃ y : Wl w0, w'' = y.1 :=
  h.mono fun _ _ ⟨he, hb⟩ => ⟨he, x, hb.symm⟩
theorem row18 {w : World} {b : Nat} {v : Nat → Int} {t : ByteArray} {T : TypeId} (h : w.heap[b]? = some (.cells (factC v t) T (0, 0))) :
    w.cell? ⟨b, 0, none⟩ = some (.int .i64 (v 0)) ∧ w.cell? ⟨b, 1, none⟩ = some (.int .i64 (v 1)) ∧ w.cell? ⟨b, 2, none⟩ = some (.int .i64 (v 2)) ∧ w.cell? ⟨b, 3, none⟩ = some (.int .i64 (v 3)) ∧ w.cell? ⟨b, 4, none⟩ = some (.int .i64 (v 4)) ∧ w.cell? ⟨b, 5, none⟩ = some (.int .i64 (v 5)) ∧ w.cell? ⟨b, 6, none⟩ = some (.int .i64 (v 6)) ∧ w.cell? ⟨b, 7, none⟩ = some (.int .i64 (v 7)) ∧ w.cell? ⟨b, 8, none⟩ = some (.int .i64 (v 8)) ∧ w.cell? ⟨b, 9, none⟩ = some (.int .i64 (v 9)) ∧ w.cell? ⟨b, 10, none⟩ = some (.int .i64 (v 10)) ∧ w.cell? ⟨b, 11, none⟩ = some (.int .i64 (v 11)) ∧ w.cell? ⟨b, 12, none⟩ = some (.int .i64 (v 12)) ∧ w.cell? ⟨b, 13, none⟩ = some (.int .i64 (v 13)) ∧ w.cell? ⟨b, 14, none⟩ = some (.int .i64 (v 14)) ∧ w.cell? ⟨b, 15, none⟩ = some (.int .i64 (v 15)) ∧ w.cell? ⟨b, 16, none⟩ = some (.int .i64 (v 16)) ∧ w.cell? ⟨b, 17, none⟩ = some (.string t) := by
  refine ⟨?_, ?_, ?_, ?_, ?_, ?_, ?_, ?_, ?_, ?_, ?_, ?_, ?_, ?_, ?_, ?_, ?_, ?_⟩ <;> (rw [cell_of_row _ _ _ _ _ _ h]; rfl)
theorem row18x {w : World} {b : Nat} {v : Nat → Int} {t : ByteArray} {T : TypeId} (h : w.heap[b]? = some (.cells (factC v t) T (0, 0))) :
    (∀ x : Wl w, x.1.cell? ⟨b, 0, none⟩ = some (.int .i64 (v 0))) ∧ (∀ x : Wl w, x.1.cell? ⟨b, 1, none⟩ = some (.int .i64 (v 1))) ∧ (∀ x : Wl w, x.1.cell? ⟨b, 2, none⟩ = some (.int .i64 (v 2))) ∧ (∀ x : Wl w, x.1.cell? ⟨b, 3, none⟩ = some (.int .i64 (v 3))) ∧ (∀ x : Wl w, x.1.cell? ⟨b, 4, none⟩ = some (.int .i64 (v 4))) ∧ (∀ x : Wl w, x.1.cell? ⟨b, 5, none⟩ = some (.int .i64 (v 5))) ∧ (∀ x : Wl w, x.1.cell? ⟨b, 6, none⟩ = some (.int .i64 (v 6))) ∧ (∀ x : Wl w, x.1.cell? ⟨b, 7, none⟩ = some (.int .i64 (v 7))) ∧ (∀ x : Wl w, x.1.cell? ⟨b, 8, none⟩ = some (.int .i64 (v 8))) ∧ (∀ x : Wl w, x.1.cell? ⟨b, 9, none⟩ = some (.int .i64 (v 9))) ∧ (∀ x : Wl w, x.1.cell? ⟨b, 10, none⟩ = some (.int .i64 (v 10))) ∧ (∀ x : Wl w, x.1.cell? ⟨b, 11, none⟩ = some (.int .i64 (v 11))) ∧ (∀ x : Wl w, x.1.cell? ⟨b, 12, none⟩ = some (.int .i64 (v 12))) ∧ (∀ x : Wl w, x.1.cell? ⟨b, 13, none⟩ = some (.int .i64 (v 13))) ∧ (∀ x : Wl w, x.1.cell? ⟨b, 14, none⟩ = some (.int .i64 (v 14))) ∧ (∀ x : Wl w, x.1.cell? ⟨b, 15, none⟩ = some (.int .i64 (v 15))) ∧ (∀ x : Wl w, x.1.cell? ⟨b, 16, none⟩ = some (.int .i64 (v 16))) ∧ (∀ x : Wl w, x.1.cell? ⟨b, 17, none⟩ = some (.string t)) := by
  refine ⟨fun x => ?_, fun x => ?_, fun x => ?_, fun x => ?_, fun x => ?_, fun x => ?_, fun x => ?_, fun x => ?_, fun x => ?_, fun x => ?_, fun x => ?_, fun x => ?_, fun x => ?_, fun x => ?_, fun x => ?_, fun x => ?_, fun x => ?_, fun x => ?_⟩ <;> (rw [cell_of_row _ _ _ _ _ _ (x.2.row h)]; rfl)
/-- A whole row of cells reads in one. -/
theorem load_row (w : World) (b n : Nat) (c : Array Value) (t : TypeId) (hc : w.heap[b]? = some (.cells c t (0, 0))) (hn : c.size = n) :
    (loadCellsFrom ⟨b, 0, none⟩ 0 n #[]).run Try.prog w = .ok c w := by
  subst hn
  have := run_loadCells_list (P := Try.prog) w ⟨b, 0, none⟩ c.toList (fun j v hv => by
    have hadd : (⟨b, 0, none⟩ : Addr).add j = ⟨b, j, none⟩ := by unfold Addr.add; split <;> simp_all
    rw [hadd, cell_of_row _ _ j c t (0, 0) hc]
    simpa using hv)
  simpa [loadCells] using this

set_option maxRecDepth 100000 in
set_option maxHeartbeats 4000000 in
theorem numbers_calls (b o : Nat) (w : World) :
    Calls Try.prog 51 #[.pointer (some ⟨b, o, none⟩)] w fun e W' => e = .returned (.agg (ptrL b o).toArray) ∧ Below w.heap.size w W' := by
  have hi : (Try.prog.info? 97).map (·.size) = some (ptrL b o).toArray.size := by kernel_rfl
  have hone := ptrL_one b o
  rw [ptrL_lit] at *
  go_enter Try.func51, Try.ntmps51
  go_wp2_with fail
  obtain ⟨W0, hW0, f0, b0⟩ : ∃ W0, w.alloc (.cells #[.pointer none, .pointer none, .pointer none, .pointer none, .pointer none, .pointer none, .pointer none, .pointer none, .pointer none, .pointer none, .pointer none, .pointer none, .pointer none, .pointer none, .pointer none, .pointer none, .pointer none] 97) = W0 ∧ W0.heap[w.heap.size]? = some (.cells #[.pointer none, .pointer none, .pointer none, .pointer none, .pointer none, .pointer none, .pointer none, .pointer none, .pointer none, .pointer none, .pointer none, .pointer none, .pointer none, .pointer none, .pointer none, .pointer none, .pointer none] 97 (0, 0)) ∧ Below w.heap.size w W0 := ⟨_, rfl, heap_new w _, (Below.refl _ _).alloc (Nat.le_refl _) _⟩
  rw [hW0]
  have F0 := Lib.hid f0
  clear f0 hW0
  go_still_tail 52, (by kernel_rfl)
  change wpList _ _ _ _ _ W0.drew
  refine wpList_store_row rfl 97 _ _ rfl w.heap.size _ rfl rfl 97 _ F0.out hi rfl hone ?_
  go_wp2_with fail
  refine bodyPost_ret (v := .agg (ptrL b o).toArray) ?_ rfl ?_
  · exact results_cell_row rfl _ _ w.heap.size 97 _ (0, 0) _ rfl (setRow_heap W0.drew w.heap.size _ _ 97 (0, 0) F0.out) Try.underlying97 rfl hi
  · exact ⟨rfl, below_setRow' b0.drew _ _ (Nat.le_refl _)⟩

end Go.Proofs.Ytngkfopdlkddnaa
namespace Go.Proofs.Ytngkfopdlkddnaa
open Go.RowKit
theorem hiFact : (Try.prog.info? 29).map (·.size) = some 18 := by kernel_rfl
theorem two_rows (w : World) (c d : Array Value) (s t : TypeId) : ∃ W0, (w.alloc (.cells c s)).alloc (.cells d t) = W0 ∧ W0.heap[w.heap.size]? = some (.cells c s (0, 0)) ∧ W0.heap[w.heap.size + 1]? = some (.cells d t (0, 0)) ∧ Below w.heap.size w W0 :=
  ⟨_, rfl, (((Below.refl _ (w.alloc _)).alloc (Nat.le_refl _) _).block _ (by simp)).trans (heap_new w _), by simpa using heap_new (w.alloc (.cells c s)) _, ((Below.refl _ _).alloc (Nat.le_refl _) _).alloc (by simp) _⟩
theorem one_row (w : World) (c : Array Value) (s : TypeId) : ∃ W0, w.alloc (.cells c s) = W0 ∧ W0.heap[w.heap.size]? = some (.cells c s (0, 0)) ∧ Below w.heap.size w W0 :=
  ⟨_, rfl, heap_new w _, (Below.refl _ _).alloc (Nat.le_refl _) _⟩
theorem runEq (u v : Nat → Int) (s t : ByteArray) (W : World) : (binOp .eql 29 (.agg (factC u s)) (.agg (factC v t))).run Try.prog W = .ok (.bool (eqB u v s t)) W := by
  rw [run_eql_struct, eqFact]
  rfl
set_option maxRecDepth 100000 in
theorem Same_calls (u v : Nat → Int) (s t : ByteArray) (w : World) : Calls Try.prog 18 #[.agg (factC u s), .agg (factC v t)] w fun e W' => e = .returned (.bool (eqB u v s t)) ∧ Below w.heap.size w W' := by
  have hq := fun W => runEq u v s t W
  go_enter Try.func18, Try.ntmps18
  go_upto_region 1 with (fail)
  obtain ⟨W0, hW0, f0, f1, b0⟩ := two_rows w (factC u s) (factC v t) 29 29
  rw [hW0]
  clear hW0
  have F0 := Lib.hid f0
  have F1 := Lib.hid f1
  clear f0 f1
  go_wp2_with (first
    | (refine wpList_load_row rfl 29 _ rfl w.heap.size rfl _ _ _ _ F0.out Try.underlying29 rfl hiFact ?_)
    | (refine wpList_load_row rfl 29 _ rfl (w.heap.size + 1) rfl _ _ _ _ F1.out Try.underlying29 rfl hiFact ?_))
  go_ret
  exact ⟨rfl, b0⟩
/-- The laws' rate. -/
def rateV (ver am : Int) : Nat → Int := fun i => if i = 0 then 7 else if i = 15 then 3 else if i = 3 then 5 else if i = 2 then ver else if i = 13 then am else 0
theorem factC_one (v : Nat → Int) (t : ByteArray) : (factC v t).all (·.oneCell') = true := by
  rw [Array.all_eq_true_iff_forall_mem]; intro x hx; simp at hx; rcases hx with rfl | rfl | rfl | rfl | rfl | rfl | rfl | rfl | rfl | rfl | rfl | rfl | rfl | rfl | rfl | rfl | rfl | rfl <;> rfl
theorem hiC (v : Nat → Int) (t : ByteArray) : (Try.prog.info? 29).map (·.size) = some (factC v t).size := hiFact
/-- No fact: all fields are zero. -/
abbrev zeroV : Nat → Int := fun _ => 0
/-- A text of at most 2010 bytes. -/
def cutT (t : ByteArray) : ByteArray := t.extract 0 (min t.size 2010)
theorem cutT_size (t : ByteArray) : (cutT t).size ≤ 2010 := by
  show (cutT t).data.toList.length ≤ 2010
  unfold cutT
  rw [Lib.extract_data, List.length_take]; omega
/-- pick, as a number. -/
def pickF (c n : Int) : Int := if c < 0 then (-(c + 1)) % n else c % n
theorem pickF_lt (c n : Int) (h : 1 ≤ n) : 0 ≤ pickF c n ∧ pickF c n < n := by
  unfold pickF
  split
  · exact ⟨Int.emod_nonneg _ (by omega), Int.emod_lt_of_pos _ (by omega)⟩
  · exact ⟨Int.emod_nonneg _ (by omega), Int.emod_lt_of_pos _ (by omega)⟩
end Go.Proofs.Ytngkfopdlkddnaa
