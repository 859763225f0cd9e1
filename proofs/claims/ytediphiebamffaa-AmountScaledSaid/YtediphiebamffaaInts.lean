/- Words for the walks of layer 3: rows of integers. -/
import Derived.Test.YtediphiebamffaaRefA
import Derived.Maps.AppendAt
import Derived.OwnWalk
import Derived.BigRegion
import Derived.Deep.QuietTactic
import Derived.BigQuiet
import Derived.Deep.RegionHeld3
import Derived.Deep.Cut
import Derived.Outline
import Derived.WalkSpells
import Derived.WalkLawsBesides
namespace Go.Proofs.Ytediphiebamffaa
open Go.RowKit

theorem results_tmp3 {fn : Func} {t u v : Tmp} (h : fn.results = #[.tmp t, .tmp u, .tmp v]) (tmps : Array Value) (P : Program) (w : World) :
    (results fn tmps).run P w = .ok (.tuple #[tmps.getD t undef, tmps.getD u undef, tmps.getD v undef]) w := by
  simp [results, h]
theorem lt_of_cell {w : World} {p : Addr} {v : Value} (h : w.cell? p = some v) : p.block < w.heap.size := World.block_lt_of_cell? w _ h
theorem below_drewN {B : Nat} {a w : World} (h : Below B a w) (n : Nat) : Below B a (w.drewN n) := ⟨h.os, h.tape, h.output, h.size, h.block⟩
/-- What a walk holds from call to call: nothing that was there has changed. -/
def Hld (w0 w : World) : Prop := Hid (Below w0.heap.size w0 w)
theorem Hld.step {w0 w w' : World} (h : Hld w0 w) (hb : Below w.heap.size w w') : Hld w0 w' := Lib.hid ((Hid.out h).trans (hb.mono (Hid.out h).size))
theorem Hld.start (w : World) : Hld w w.drew := Lib.hid (Below.refl _ _).drew
theorem Hld.refl (w : World) : Hld w w := Lib.hid (Below.refl _ _)
theorem Hld.alloc {w0 w : World} (h : Hld w0 w) (o : Obj) : Hld w0 (w.alloc o) := Lib.hid ((Hid.out h).alloc (Hid.out h).size o)
theorem Hld.grown {w0 w w' : World} {row : Option Nat} (h : Hld w0 w) (hg : w.grownBy w' row) (hr : ∀ k, row = some k → w0.heap.size ≤ k) : Hld w0 w' := Lib.hid ((Hid.out h).grown hg (Hid.out h).size hr)
theorem Hld.size {w0 w : World} (h : Hld w0 w) : w0.heap.size ≤ w.heap.size := (Hid.out h).size

theorem IntsAt.keep {w w' : World} {b o : Nat} {l : List Int} (h : IntsAt w b o l) (hb : Below w.heap.size w w') : IntsAt w' b o l := fun i hi =>
  (hb.cell (p := ⟨b, o + i, none⟩) (lt_of_cell (h i hi))).trans (h i hi)
theorem IntsAt.take {w : World} {b o : Nat} {l : List Int} (h : IntsAt w b o l) (k : Nat) : IntsAt w b o (l.take k) := fun i hi => by
  have hi2 : i < k ∧ i < l.length := by rw [List.length_take] at hi; omega
  rw [h i hi2.2]
  simp only [List.getD_eq_getElem?_getD, List.getElem?_take, if_pos hi2.1]
theorem IntsAt.drop {w : World} {b o : Nat} {l : List Int} (h : IntsAt w b o l) (k : Nat) : IntsAt w b (o + k) (l.drop k) := fun i hi => by
  rw [List.length_drop] at hi
  rw [Nat.add_assoc, h (k + i) (by omega)]
  simp only [List.getD_eq_getElem?_getD, List.getElem?_drop]
/-- A slice of integers, as a walk reads it. -/
def Ints (w : World) (A : Option Addr) (l : List Int) : Prop := l = [] ∨ ∃ b o, A = some ⟨b, o, none⟩ ∧ IntsAt w b o l
theorem Ints.keep {w w' : World} {A : Option Addr} {l : List Int} (h : Ints w A l) (hb : Below w.heap.size w w') : Ints w' A l := by
  rcases h with h | ⟨b, o, rfl, h⟩
  · exact Or.inl h
  · exact Or.inr ⟨b, o, rfl, h.keep hb⟩
theorem IntsAt.ints {w : World} {b o : Nat} {l : List Int} (h : IntsAt w b o l) : Ints w (some ⟨b, o, none⟩) l := Or.inr ⟨b, o, rfl, h⟩
theorem Ints.take {w : World} {A : Option Addr} {l : List Int} (h : Ints w A l) (k : Nat) : Ints w A (l.take k) := by
  rcases h with rfl | ⟨b, o, rfl, hs⟩
  · left; simp
  · exact (IntsAt.take hs k).ints
def HI (w : World) (A : Option Addr) (l : List Int) : Prop := Hid (Ints w A l)
theorem HI.keep {w w' : World} {A : Option Addr} {l : List Int} (h : HI w A l) (b : Below w.heap.size w w') : HI w' A l := Lib.hid ((Hid.out h).keep b)

/-- Integers that an int64 can hold. -/
def In64 (l : List Int) : Prop := ∀ x ∈ l, -9223372036854775808 ≤ x ∧ x ≤ 9223372036854775807
theorem In64.getD {l : List Int} (h : In64 l) (i : Nat) (hi : i < l.length) : -9223372036854775808 ≤ l.getD i 0 ∧ l.getD i 0 ≤ 9223372036854775807 := by
  rw [List.getD_eq_getElem?_getD, List.getElem?_eq_getElem hi]
  exact h _ (List.getElem_mem hi)

/-! ### Rows of one's own -/
def cellsI (l : List Int) : List Value := l.map fun x => .int .i64 x
theorem cellsI_length (l : List Int) : (cellsI l).length = l.length := by unfold cellsI; simp
theorem cellsI_snoc (l : List Int) (x : Int) : cellsI (l ++ [x]) = cellsI l ++ [.int .i64 x] := by unfold cellsI; rw [List.map_append]; rfl
theorem cellsI_get (l : List Int) (i : Nat) (hi : i < l.length) : (cellsI l)[i]? = some (.int .i64 (l.getD i 0)) := by
  unfold cellsI
  rw [List.getElem?_map, List.getElem?_eq_getElem hi, List.getD_eq_getElem?_getD, List.getElem?_eq_getElem hi]
  rfl
def RowI (w : World) (base : Nat) (v : Value) (l : List Int) : Prop := w.ownsRow base 3 1 v l.length (cellsI l)
theorem RowI.nil (w : World) (base : Nat) : RowI w base (.slice none 0 0) [] := World.ownsRow_nil _ _ _ _
theorem RowI.below {w w' : World} {base : Nat} {v : Value} {l : List Int} (h : RowI w base v l) (hb : Below w.heap.size w w') : RowI w' base v l := by
  obtain ⟨h1, h2⟩ := h
  refine ⟨h1, ?_⟩
  rcases h2 with h | ⟨g, cap, cur, hv, hb2, hg, rest⟩
  · exact Or.inl h
  · exact Or.inr ⟨_, _, _, hv, hb2, (hb.block _ (Array.getElem?_eq_some_iff.1 hg).1).trans hg, rest⟩
theorem RowI.snoc {w : World} {base : Nat} {v : Value} {l p : List Int} {r : Int} (e : l = p ++ [r]) (h : w.ownsRow base 3 1 v (p.length + 1) (cellsI p ++ [.int .i64 r])) : RowI w base v l := by
  subst e
  unfold RowI
  rw [cellsI_snoc, List.length_append]
  exact h
/-- Where a slice's cells lie. -/
def Lies (A : Option Addr) (c n : Nat) : Prop := (A = none ∧ c = 0 ∧ n = 0) ∨ ∃ g, A = some ⟨g, 0, none⟩
theorem RowI.slice {w : World} {base : Nat} {v : Value} {l : List Int} (h : RowI w base v l) : ∃ A cap, v = .slice A l.length cap ∧ l.length ≤ cap ∧ HI w A l ∧ Lies A cap l.length := by
  have h0 := h
  obtain ⟨h1, h2⟩ := h
  rcases h2 with ⟨rfl, h⟩ | ⟨g, cap, cur, rfl, hb2, hg, hc, rest⟩
  · have : l = [] := List.length_eq_zero_iff.1 h
    subst this
    exact ⟨none, 0, rfl, Nat.le_refl _, Lib.hid (Or.inl rfl), Or.inl ⟨rfl, rfl, rfl⟩⟩
  · refine ⟨_, cap, rfl, hc, Lib.hid (Or.inr ⟨g, 0, rfl, fun i hi => ?_⟩), Or.inr ⟨g, rfl⟩⟩
    rw [Nat.zero_add, h0.cellAt i (by omega), cellsI_get l i hi]
theorem RowI.lt {w : World} {base : Nat} {v : Value} {l : List Int} (h : RowI w base v l) : ∀ k, v.ownBlock = some k → base ≤ k := fun k e => (World.ownsRow.lt h k e).1
theorem RowI.alloc {w : World} {base : Nat} {v : Value} {l : List Int} (h : RowI w base v l) (o : Obj) : RowI (w.alloc o) base v l := World.ownsRow.alloc h o
theorem RowI.mono {w : World} {base base' : Nat} {v : Value} {l : List Int} (h : RowI w base v l) (hb : base' ≤ base) : RowI w base' v l := by
  obtain ⟨h1, h2⟩ := h
  refine ⟨h1, ?_⟩
  rcases h2 with h | ⟨g, cap, cur, hv, hb2, hg, rest⟩
  · exact Or.inl h
  · exact Or.inr ⟨_, _, _, hv, Nat.le_trans hb hb2, hg, rest⟩
/-- A block just laid. -/
theorem ints_block (w : World) (l : List Int) (t : TypeId) : IntsAt (w.alloc (.cells (cellsI l).toArray t)) w.heap.size 0 l := fun i hi => by
  rw [cell_of_row _ _ _ _ _ _ (heap_alloc_new w _), Nat.zero_add, List.getElem?_toArray, cellsI_get l i hi]
theorem ints_one (w : World) (a : Int) (t : TypeId) : IntsAt (w.alloc (.cells #[.int .i64 a] t)) w.heap.size 0 [a] := ints_block w [a] t
theorem ints_two (w : World) (a b : Int) (t : TypeId) : IntsAt (w.alloc (.cells #[.int .i64 a, .int .i64 b] t)) w.heap.size 0 [a, b] := ints_block w [a, b] t
theorem ints_three (w : World) (a b c : Int) (t : TypeId) : IntsAt (w.alloc (.cells #[.int .i64 a, .int .i64 b, .int .i64 c] t)) w.heap.size 0 [a, b, c] := ints_block w [a, b, c] t
theorem RowI.empty (w : World) (base : Nat) (hb : base ≤ w.heap.size) : RowI (w.alloc (.cells #[] 3)) base (.slice (some ⟨w.heap.size, 0, none⟩) 0 0) [] :=
  World.ownsRow_lit w #[] 0 hb (by unfold maxLen; omega) rfl

/-! ### Append -/
theorem append_ints (base : Nat) (w : World) {v : Value} {l : List Int} (hv : RowI w base v l) {A : Option Addr} {c : Nat} {m : List Int} (hs : Ints w A m) (hA : m = [] → A = none ∧ c = 0 ∨ ∃ b o, A = some ⟨b, o, none⟩) (hb : base ≤ w.heap.size) (hlen : l.length + m.length ≤ 1000000) (ty : TypeId) :
    ∃ v' w', (Builtin.append_ #[29, 29] ty #[v, .slice A m.length c]).run Try.prog w = .ok v' w' ∧ RowI w' base v' (l ++ m) ∧ w.grownBy w' v.ownBlock := by
  obtain ⟨i0, hi, hz0, hz1, hz2⟩ := info_parts (show (Try.prog.info? 3).map (fun i => (i.zero, i.size, i.bytes)) = some (some (.int .i64 0), 1, 8) from by kernel_rfl)
  have hcase : (A = none ∧ c = 0 ∧ m = []) ∨ ∃ b o, A = some ⟨b, o, none⟩ ∧ IntsAt w b o m := by
    rcases hs with h | ⟨b, o, h, hs⟩
    · rcases hA h with ⟨h1, h2⟩ | ⟨b, o, h1⟩
      · exact Or.inl ⟨h1, h2, h⟩
      · exact Or.inr ⟨b, o, h1, fun i hi => by subst h; simp at hi⟩
    · exact Or.inr ⟨b, o, h, hs⟩
  rcases hcase with ⟨rfl, rfl, hm⟩ | ⟨b, o, rfl, hsA⟩
  · subst hm
    refine ⟨v, w, run_append_owned_none w base 29 ty 3 i0 1 Try.underlying29 hi v l.length (cellsI l) hv, ?_, ⟨rfl, rfl, rfl, Nat.le_refl _, fun _ _ _ => rfl⟩⟩
    rw [List.append_nil]; exact hv
  · obtain ⟨v', w', hr, ho, hg, _, _⟩ := run_append_own_at w base 29 ty 3 i0 (.int .i64 0) 1 8 Try.underlying29 hi hz0 hz1 hz2 rfl (by decide) v l.length (cellsI l) hv ⟨b, o, none⟩ m.length c (cellsI m) (by rw [cellsI_length]; omega) (by
      intro j u hu
      have hj : j < m.length := by
        have := (List.getElem?_eq_some_iff.1 hu).1
        rwa [cellsI_length] at this
      have e : Addr.add ⟨b, o, none⟩ j = ⟨b, o + j, none⟩ := by unfold Addr.add; split <;> simp_all
      rw [e, hsA j hj, ← hu, cellsI_get m j hj]) (by
      intro u hu
      obtain ⟨y, _, rfl⟩ := List.mem_map.1 hu
      rfl) (by unfold maxLen; omega) (by omega) hb
    refine ⟨v', w', hr, ?_, hg⟩
    unfold RowI
    rw [List.length_append, show cellsI (l ++ m) = cellsI l ++ cellsI m from by unfold cellsI; rw [List.map_append]]
    exact ho
theorem wp_append_run {P : Program} {o : Oper} {a : Act} {w : World} {K : Act → World → Prop} {Q : Exit → Act → World → Prop} (s x : Operand) (t : TypeId)
    (ho : o.op = .call { callee := .builtin .append, args := #[s, x], argTypes := #[t, t] }) (v u : Value) (hs : a.eval s = v) (hx : a.eval x = u) {v' : Value} {w' : World}
    (hr : (Builtin.append_ #[t, t] o.type #[v, u]).run P w = .ok v' w') (h : K (a.put o.dst v') w') : o.wp P a w K Q := by
  unfold Oper.wp execOp
  simp only [ho, resolve, invoke, builtin, Sem.run_bind, Sem.run_pure, Result.andThen_ok, List.map_toArray, List.map_cons, List.map_nil, hs, hx, hr]
  exact h
theorem wpList_append_run {P : Program} {ops : Array Oper} {rest : List Oper} {o : Oper} {a : Act} {w : World} {Q : Exit → Act → World → Prop} (hgd : o.guard = none) (s x : Operand) (t : TypeId)
    (ho : o.op = .call { callee := .builtin .append, args := #[s, x], argTypes := #[t, t] }) (v u : Value) (hs : a.eval s = v) (hx : a.eval x = u) {v' : Value} {w' : World}
    (hr : (Builtin.append_ #[t, t] o.type #[v, u]).run P w = .ok v' w') (h : wpList P ops Q rest (a.put o.dst v') w') : wpList P ops Q (o :: rest) a w :=
  wpList_plain hgd fun _ hK => wp_append_run s x t ho v u hs hx hr (hK _ _ h)
theorem run_min2 (ts : Array TypeId) (t : TypeId) (x y : Int) (w : World) : (Builtin.min_ ts t #[.int .i64 x, .int .i64 y]).run Try.prog w = .ok (.int .i64 (min x y)) w := by
  have h : (if y < x then y else x) = min x y := by split <;> omega
  rw [← h]
  simp [Builtin.min_, Builtin.min2]
end Go.Proofs.Ytediphiebamffaa
