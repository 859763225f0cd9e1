/- A map from places to ranges, as package fact's limits makes it: laws for its making, its filling and its look-up; the contract of limits. -/
import Derived.Test.YtngkfopdlkddnaaK04
import Derived.MapKept
import Derived.Maps.OwnOps
namespace Go.Proofs.Ytngkfopdlkddnaa
open Go.RowKit Go.MapKept

/-- A range as a value. -/
abbrev spanV (a b : Int) : Value := .agg #[.int .i64 a, .int .i64 b]
/-- Block b is a map that holds these ranges. -/
def MapAt (w : World) (b : Nat) (l : List (Nat × Int × Int)) : Prop :=
  ∃ es clock, w.heap[b]? = some (.map es clock) ∧ es.toList.map (fun e => (e.key, e.val)) = l.map (fun p => (Value.int .i64 (p.1 : Int), spanV p.2.1 p.2.2))
theorem key_int (a : Int) : IsKey (.int .i64) (.int .i64 a) := by simp [IsKey]
theorem findNow_map (kk : Nat) : ∀ (es : List MapEntry) (l : List (Nat × Int × Int)) (i : Nat), es.map (fun e => (e.key, e.val)) = l.map (fun p => (Value.int .i64 (p.1 : Int), spanV p.2.1 p.2.2)) →
    ((∀ p ∈ l, p.1 ≠ kk) → Instr.findNow (.int .i64) (.int .i64 (kk : Int)) es i = some none) ∧
    ((∃ p ∈ l, p.1 = kk) → ∃ j, Instr.findNow (.int .i64) (.int .i64 (kk : Int)) es i = some (some (j, spanV (rgOf l kk).1 (rgOf l kk).2))) := by
  intro es
  induction es with
  | nil =>
    intro l i h
    cases l with
    | nil => exact ⟨fun _ => rfl, fun ⟨p, hp, _⟩ => by cases hp⟩
    | cons p l => cases h
  | cons e es ih =>
    intro l i h
    cases l with
    | nil => cases h
    | cons p l =>
      simp only [List.map_cons, List.cons.injEq, Prod.mk.injEq] at h
      obtain ⟨⟨h1, h2⟩, h3⟩ := h
      obtain ⟨i1, i2⟩ := ih l (i + 1) h3
      by_cases hp : p.1 = kk
      · refine ⟨fun hn => absurd hp (hn p (.head _)), fun _ => ⟨i, ?_⟩⟩
        have hs : Instr.sameNow (.int .i64) (.int .i64 (kk : Int)) e.key = some true := by rw [h1, hp]; simp [Instr.sameNow]
        simp only [Instr.findNow, hs, h2, rgOf, if_pos hp]
      · have hs : Instr.sameNow (.int .i64) (.int .i64 (kk : Int)) e.key = some false := by rw [h1]; simp [Instr.sameNow]; omega
        refine ⟨fun hn => ?_, fun ⟨q, hq, hqk⟩ => ?_⟩
        · simp only [Instr.findNow, hs]
          exact i1 fun q hq => hn q (.tail _ hq)
        · cases hq with
          | head => exact absurd hqk hp
          | tail _ hq =>
            obtain ⟨j, hj⟩ := i2 ⟨q, hq, hqk⟩
            exact ⟨j, by simp only [Instr.findNow, hs, rgOf, if_neg hp]; exact hj⟩
theorem rgOf_none (l : List (Nat × Int × Int)) (kk : Nat) (h : ∀ p ∈ l, p.1 ≠ kk) : rgOf l kk = (0, 0) := by
  induction l with
  | nil => rfl
  | cons p l ih => rw [rgOf, if_neg (h p (.head _))]; exact ih fun q hq => h q (.tail _ hq)
theorem uMap : Try.prog.underlying 68 = some (.map 3 71) := Try.underlying68
theorem uInt : Try.prog.underlying 3 = some (.int .i64) := Try.underlying3
theorem zSpan (w : World) : (zeroValue 71).run Try.prog w = .ok (spanV 0 0) w := by kernel_rfl

theorem run_look (w : World) (b : Nat) (l : List (Nat × Int × Int)) (kk : Nat) (h : MapAt w b l) :
    (Instr.lookup 68 (.map (some b)) (.int .i64 (kk : Int)) false).run Try.prog w = .ok (spanV (rgOf l kk).1 (rgOf l kk).2) w := by
  obtain ⟨es, clock, hb, he⟩ := h
  obtain ⟨h1, h2⟩ := findNow_map kk es.toList l 0 he
  by_cases hk : ∃ p ∈ l, p.1 = kk
  · obtain ⟨j, hj⟩ := h2 hk
    simp [Instr.lookup, run_underlying uMap, Result.andThen, MapKept.run_getObj_map hb, run_checkKey uInt (key_int _), run_findKey uInt hj]
  · have hn : ∀ p ∈ l, p.1 ≠ kk := fun p hp e => hk ⟨p, hp, e⟩
    have hj := h1 hn
    rw [rgOf_none l kk hn]
    simp [Instr.lookup, run_underlying uMap, Result.andThen, MapKept.run_getObj_map hb, run_checkKey uInt (key_int _), run_findKey uInt hj]

theorem run_put (w : World) (b : Nat) (l : List (Nat × Int × Int)) (kk : Nat) (lo hi : Int) (h : MapAt w b l) (hn : ∀ p ∈ l, p.1 ≠ kk) :
    ∃ w', (Instr.mapUpdate 68 (.map (some b)) (.int .i64 (kk : Int)) (spanV lo hi)).run Try.prog w = .ok () w' ∧ MapAt w' b (l ++ [(kk, lo, hi)]) ∧
      w'.os = w.os ∧ w'.tape = w.tape ∧ w'.output = w.output ∧ w.heap.size ≤ w'.heap.size ∧ (∀ k, k ≠ b → w'.heap[k]? = w.heap[k]?) := by
  obtain ⟨es, clock, hb, he⟩ := h
  have hj := (findNow_map kk es.toList l 0 he).1 hn
  refine ⟨{ w with heap := w.heap.setIfInBounds b (.map (es.push { key := .int .i64 (kk : Int), val := spanV lo hi, born := clock }) (clock + 1)) }, by simp [Instr.mapUpdate, run_underlying uMap, Result.andThen, MapKept.run_getObj_map hb, run_checkKey uInt (key_int _), run_findKey uInt hj, run_setObj_map _ hb], ⟨_, _, (heap_set hb).1, ?_⟩, rfl, rfl, rfl, by simp, (heap_set hb).2⟩
  simp [he]

/-- The five ranges that limits lays. -/
def Spans (w0 w : World) : Prop := Below w0.heap.size w0 w ∧ w0.heap.size + 5 < w.heap.size + 1 ∧
  w.heap[w0.heap.size]? = some (.cells #[.int .i64 1, .int .i64 1000000] 71 (0, 0)) ∧ w.heap[w0.heap.size + 1]? = some (.cells #[.int .i64 0, .int .i64 1199] 71 (0, 0)) ∧
  w.heap[w0.heap.size + 2]? = some (.cells #[.int .i64 0, .int .i64 7] 71 (0, 0)) ∧ w.heap[w0.heap.size + 3]? = some (.cells #[.int .i64 0, .int .i64 20] 71 (0, 0)) ∧
  w.heap[w0.heap.size + 4]? = some (.cells #[.int .i64 0, .int .i64 2000] 71 (0, 0))
/-- .. and a map behind them. -/
def FillM (w0 w : World) (l : List (Nat × Int × Int)) : Prop := Spans w0 w ∧ MapAt w (w0.heap.size + 5) l
theorem Spans.r0 {w0 w : World} (h : Spans w0 w) : w.heap[w0.heap.size]? = some (.cells #[.int .i64 1, .int .i64 1000000] 71 (0, 0)) := h.2.2.1
theorem Spans.r1 {w0 w : World} (h : Spans w0 w) : w.heap[w0.heap.size + 1]? = some (.cells #[.int .i64 0, .int .i64 1199] 71 (0, 0)) := h.2.2.2.1
theorem Spans.r2 {w0 w : World} (h : Spans w0 w) : w.heap[w0.heap.size + 2]? = some (.cells #[.int .i64 0, .int .i64 7] 71 (0, 0)) := h.2.2.2.2.1
theorem Spans.r3 {w0 w : World} (h : Spans w0 w) : w.heap[w0.heap.size + 3]? = some (.cells #[.int .i64 0, .int .i64 20] 71 (0, 0)) := h.2.2.2.2.2.1
theorem Spans.r4 {w0 w : World} (h : Spans w0 w) : w.heap[w0.heap.size + 4]? = some (.cells #[.int .i64 0, .int .i64 2000] 71 (0, 0)) := h.2.2.2.2.2.2
theorem wpList_insert_new {ops : Array Oper} {rest : List Oper} {o : Oper} {a : Act} {w : World} {Q : Exit → Act → World → Prop} (hg : o.guard = none) (m k x : Operand) (hop : o.op = .insert 68 m k x)
    (w0 : World) (l : List (Nat × Int × Int)) (kk : Nat) (lo hi : Int) (hm : a.eval m = .map (some (w0.heap.size + 5))) (hk : a.eval k = .int .i64 (kk : Int)) (hx : a.eval x = spanV lo hi) (hF : FillM w0 w l) (hn : (l.all fun p => p.1 != kk) = true)
    (h : ∀ w', FillM w0 w' (l ++ [(kk, lo, hi)]) → wpList Try.prog ops Q rest (a.put o.dst undef) w') : wpList Try.prog ops Q (o :: rest) a w := by
  refine wpList_plain hg fun K' hK' => ?_
  obtain ⟨w', hrun, hM, e1, e2, e3, e4, e5⟩ := run_put w (w0.heap.size + 5) l kk lo hi hF.2 (fun p hp => by have := List.all_eq_true.1 hn p hp; simpa using this)
  unfold Oper.wp
  simp [execOp, hop, hm, hk, hx, hrun, Result.andThen]
  refine hK' _ _ (h w' ⟨⟨hF.1.1.trans ⟨e1, e2, e3, e4, fun k hk => e5 k (by omega)⟩, by have := hF.1.2.1; omega, ?_, ?_, ?_, ?_, ?_⟩, hM⟩)
  · rw [e5 _ (by omega)]; exact hF.1.r0
  · rw [e5 _ (by omega)]; exact hF.1.r1
  · rw [e5 _ (by omega)]; exact hF.1.r2
  · rw [e5 _ (by omega)]; exact hF.1.r3
  · rw [e5 _ (by omega)]; exact hF.1.r4
theorem wpList_made {ops : Array Oper} {rest : List Oper} {o : Oper} {a : Act} {w : World} {Q : Exit → Act → World → Prop} (hg : o.guard = none) (hop : o.op = .makeMap 68 none)
    (w0 : World) (hz : w.heap.size = w0.heap.size + 5) (hS : Spans w0 w)
    (h : ∀ w', FillM w0 w' [] → wpList Try.prog ops Q rest (a.put o.dst (.map (some (w0.heap.size + 5)))) w') : wpList Try.prog ops Q (o :: rest) a w := by
  refine wpList_plain hg fun K' hK' => ?_
  unfold Oper.wp
  have hrun := @run_makeMap Try.prog 68 w
  simp [execOp, hop, hrun, Result.andThen, hz]
  have hold : ∀ k, k < w.heap.size → (w.alloc (.map #[] 0)).heap[k]? = w.heap[k]? := (heap_alloc w _).2
  refine hK' _ _ (h _ ⟨⟨hS.1.alloc hS.1.size _, by simp; omega, ?_, ?_, ?_, ?_, ?_⟩, ⟨#[], 0, by rw [← hz]; exact (heap_alloc w _).1, rfl⟩⟩)
  · rw [hold _ (by omega)]; exact hS.r0
  · rw [hold _ (by omega)]; exact hS.r1
  · rw [hold _ (by omega)]; exact hS.r2
  · rw [hold _ (by omega)]; exact hS.r3
  · rw [hold _ (by omega)]; exact hS.r4
theorem row_after (w : World) (o x : Obj) (b : Nat) (h : w.heap[b]? = some x) : (w.alloc o).heap[b]? = some x := Hl.row ((Below.refl _ _).alloc (Nat.le_refl _) _) h
theorem spans_laid (w : World) : Spans w (((((w.alloc (.cells #[.int .i64 1, .int .i64 1000000] 71)).alloc (.cells #[.int .i64 0, .int .i64 1199] 71)).alloc (.cells #[.int .i64 0, .int .i64 7] 71)).alloc (.cells #[.int .i64 0, .int .i64 20] 71)).alloc (.cells #[.int .i64 0, .int .i64 2000] 71)) := by
  refine ⟨(((((Below.refl _ w).alloc (Nat.le_refl _) _).alloc (by simp) _).alloc (by simp; omega) _).alloc (by simp; omega) _).alloc (by simp; omega) _, by simp, ?_, ?_, ?_, ?_, ?_⟩
  · exact row_after _ _ _ _ (row_after _ _ _ _ (row_after _ _ _ _ (row_after _ _ _ _ (heap_new w _))))
  · exact row_after _ _ _ _ (row_after _ _ _ _ (row_after _ _ _ _ (by simpa using heap_new (w.alloc _) (.cells #[.int .i64 0, .int .i64 1199] 71))))
  · exact row_after _ _ _ _ (row_after _ _ _ _ (by simpa using heap_new ((w.alloc _).alloc _) (.cells #[.int .i64 0, .int .i64 7] 71)))
  · exact row_after _ _ _ _ (by simpa using heap_new (((w.alloc _).alloc _).alloc _) (.cells #[.int .i64 0, .int .i64 20] 71))
  · simpa using heap_new ((((w.alloc _).alloc _).alloc _).alloc _) (.cells #[.int .i64 0, .int .i64 2000] 71)
theorem hiSpan : (Try.prog.info? 71).map (·.size) = some 2 := by kernel_rfl

set_option maxRecDepth 100000 in
set_option maxHeartbeats 4000000 in
theorem limits_not (k : Int) (w : World) (hk : ¬ Known k) : Calls Try.prog 30 #[.int .i64 k] w fun e W' => e = .returned (.map none) ∧ Below w.heap.size w W' := by
  have h1 : ¬ k = 1 := by unfold Known at hk; omega
  have h2 : ¬ k = 2 := by unfold Known at hk; omega
  have h3 : ¬ k = 3 := by unfold Known at hk; omega
  have h4 : ¬ k = 4 := by unfold Known at hk; omega
  have h5 : ¬ k = 5 := by unfold Known at hk; omega
  have h6 : ¬ k = 6 := by unfold Known at hk; omega
  have h7 : ¬ k = 7 := by unfold Known at hk; omega
  have h8 : ¬ k = 8 := by unfold Known at hk; omega
  have h9 : ¬ k = 9 := by unfold Known at hk; omega
  have h10 : ¬ k = 10 := by unfold Known at hk; omega
  clear hk
  go_enter Try.func30, Try.ntmps30
  go_upto_region 6 with (fail)
  obtain ⟨W0, hW0, S0, z0⟩ : ∃ W0, (((((w.alloc (.cells #[.int .i64 1, .int .i64 1000000] 71)).alloc (.cells #[.int .i64 0, .int .i64 1199] 71)).alloc (.cells #[.int .i64 0, .int .i64 7] 71)).alloc (.cells #[.int .i64 0, .int .i64 20] 71)).alloc (.cells #[.int .i64 0, .int .i64 2000] 71)) = W0 ∧ Spans w W0 ∧ W0.heap.size = w.heap.size + 5 := ⟨_, rfl, spans_laid w, by simp⟩
  rw [hW0]
  clear hW0
  have HZ := Lib.hid z0
  clear z0
  go_wp2_with fail
  go_ret
  exact ⟨rfl, S0.1⟩

end Go.Proofs.Ytngkfopdlkddnaa
