/- Contracts of package fact's numbers; words for regions whose calls make memory. -/
import Derived.Test.YtnndnjnpkjpkpaaGreatDoorFSml
import Derived.StillTailTactics
namespace Go.Proofs.YtnndnjnpkjpkpaaGreatDoor
open Go.RowKit

/-- Where a fact at b keeps its numbers, its first cell the o-th of the block. -/
def ptrL (b o : Nat) : List Value := (List.range 17).map fun i => .pointer (some ⟨b, o + i, none⟩)
theorem ptrL_lit (b o : Nat) : (ptrL b o).toArray = #[.pointer (some ⟨b, o + 0, none⟩), .pointer (some ⟨b, o + 1, none⟩), .pointer (some ⟨b, o + 2, none⟩), .pointer (some ⟨b, o + 3, none⟩), .pointer (some ⟨b, o + 4, none⟩), .pointer (some ⟨b, o + 5, none⟩), .pointer (some ⟨b, o + 6, none⟩), .pointer (some ⟨b, o + 7, none⟩), .pointer (some ⟨b, o + 8, none⟩), .pointer (some ⟨b, o + 9, none⟩), .pointer (some ⟨b, o + 10, none⟩), .pointer (some ⟨b, o + 11, none⟩), .pointer (some ⟨b, o + 12, none⟩), .pointer (some ⟨b, o + 13, none⟩), .pointer (some ⟨b, o + 14, none⟩), .pointer (some ⟨b, o + 15, none⟩), .pointer (some ⟨b, o + 16, none⟩)] := rfl
theorem ptrL_one (b o : Nat) : (ptrL b o).toArray.all (·.oneCell') = true := by
  rw [Array.all_eq_true_iff_forall_mem]
  intro x hx
  obtain ⟨y, _, rfl⟩ := List.mem_map.1 (List.mem_toArray.1 hx)
  rfl
theorem below_drewN {B : Nat} {a w : World} (h : Below B a w) (n : Nat) : Below B a (w.drewN n) := ⟨h.os, h.tape, h.output, h.size, h.block⟩
theorem below_setRow' {B : Nat} {a w : World} (h : Below B a w) (g : Nat) (cs : Array Value) (hg : B ≤ g) : Below B a (w.setRow g cs) :=
  h.trans ⟨rfl, rfl, rfl, by simp, fun k hk => setRow_other _ _ _ _ (by omega)⟩
theorem heap_new (w : World) (o : Obj) : (w.alloc o).heap[w.heap.size]? = some o := by
  show (w.heap.push o)[w.heap.size]? = some o
  simp

/-! ### Regions whose calls make memory: nothing that was there changes -/
/-- Nothing that was there has changed. -/
def Hl (w0 w : World) : Prop := Below w0.heap.size w0 w
/-- The worlds in which nothing of w0 has changed. -/
def Wl (w0 : World) : Type := {w : World // Hl w0 w}
theorem Hl.refl (w : World) : Hl w w := Below.refl _ _
instance (w0 : World) : Nonempty (Wl w0) := ⟨⟨w0, Hl.refl _⟩⟩
theorem Hl.step {w0 w w' : World} (h : Hl w0 w) (hb : Below w.heap.size w w') : Hl w0 w' := Below.trans h (hb.mono (Below.size h))
theorem Hl.cell {w0 w : World} (h : Hl w0 w) {b o : Nat} {x : Value} (hc : w0.cell? ⟨b, o, none⟩ = some x) : w.cell? ⟨b, o, none⟩ = some x :=
  (Below.cell (p := ⟨b, o, none⟩) h (World.block_lt_of_cell? w0 _ hc)).trans hc
theorem Hl.row {w0 w : World} (h : Hl w0 w) {b : Nat} {x : Obj} (hc : w0.heap[b]? = some x) : w.heap[b]? = some x :=
  (Below.block h b (Array.getElem?_eq_some_iff.1 hc).1).trans hc
theorem wp_region_hl {ops : List Oper} {id : Nat} {Q : Exit → Act → World → Prop} {a : Act} {w : World} (w0 : World) (h0 : Hl w0 w) (hm : Tryz.prog.follows .mixedOrders = true) (hB : Region.lexB .any ops.toArray = true)
    (h : wpQuiet Tryz.prog ops.toArray (fun w' => ∃ x : Wl w0, w' = x.1) (fun a' => ∀ w', Hl w0 w' → Q .normal a' w') ops a) : (Code.region id ops.toArray true).wp Tryz.prog Q a w := by
  have e : (fun a' => ∀ w', Hl w0 w' → Q .normal a' w') = (fun a' => ∀ w', (∃ x : Wl w0, w' = x.1) → Q .normal a' w') := by
    funext a'
    apply propext
    constructor
    · rintro hh w' ⟨x, rfl⟩; exact hh _ x.2
    · intro hh w' h1; exact hh w' ⟨⟨w', h1⟩, rfl⟩
  rw [e] at h
  exact wp_region_quiet (C := fun w' => ∃ x : Wl w0, w' = x.1) hm hB ⟨⟨_, Below.trans h0 ((Below.refl _ w).drew)⟩, rfl⟩ h
theorem hl_call {w0 : World} {x : Wl w0} {f : FuncId} {args : Array Value} {v : Value} (h : Calls Tryz.prog f args x.1 fun e w' => e = .returned v ∧ Below x.1.heap.size x.1 w') :
    Calls Tryz.prog f args x.1 fun e w'' => e = .returned v ∧ ∃ y : Wl w0, w'' = y.1 :=
  h.mono fun _ w' ⟨he, hb⟩ => ⟨he, ⟨w', Hl.step x.2 hb⟩, rfl⟩
theorem hl_same {w0 : World} {x : Wl w0} {f : FuncId} {args : Array Value} {v : Value} (h : Calls Tryz.prog f args x.1 fun e w' => e = .returned v ∧ x.1 = w') :
    Calls Tryz.prog f args x.1 fun e w'' => e = .returned v ∧ ∃ y : Wl w0, w'' = y.1 :=
  h.mono fun _ _ ⟨he, hb⟩ => ⟨he, x, hb.symm⟩
theorem row18 {w : World} {b : Nat} {v : Nat → Int} {t : ByteArray} {T : TypeId} (h : w.heap[b]? = some (.cells (factC v t) T (0, 0))) :
    w.cell? ⟨b, 0, none⟩ = some (.int .i64 (v 0)) ∧ w.cell? ⟨b, 1, none⟩ = some (.int .i64 (v 1)) ∧ w.cell? ⟨b, 2, none⟩ = some (.int .i64 (v 2)) ∧ w.cell? ⟨b, 3, none⟩ = some (.int .i64 (v 3)) ∧ w.cell? ⟨b, 4, none⟩ = some (.int .i64 (v 4)) ∧ w.cell? ⟨b, 5, none⟩ = some (.int .i64 (v 5)) ∧ w.cell? ⟨b, 6, none⟩ = some (.int .i64 (v 6)) ∧ w.cell? ⟨b, 7, none⟩ = some (.int .i64 (v 7)) ∧ w.cell? ⟨b, 8, none⟩ = some (.int .i64 (v 8)) ∧ w.cell? ⟨b, 9, none⟩ = some (.int .i64 (v 9)) ∧ w.cell? ⟨b, 10, none⟩ = some (.int .i64 (v 10)) ∧ w.cell? ⟨b, 11, none⟩ = some (.int .i64 (v 11)) ∧ w.cell? ⟨b, 12, none⟩ = some (.int .i64 (v 12)) ∧ w.cell? ⟨b, 13, none⟩ = some (.int .i64 (v 13)) ∧ w.cell? ⟨b, 14, none⟩ = some (.int .i64 (v 14)) ∧ w.cell? ⟨b, 15, none⟩ = some (.int .i64 (v 15)) ∧ w.cell? ⟨b, 16, none⟩ = some (.int .i64 (v 16)) ∧ w.cell? ⟨b, 17, none⟩ = some (.string t) := by
  refine ⟨?_, ?_, ?_, ?_, ?_, ?_, ?_, ?_, ?_, ?_, ?_, ?_, ?_, ?_, ?_, ?_, ?_, ?_⟩ <;> (rw [cell_of_row _ _ _ _ _ _ h]; rfl)
theorem row18x {w : World} {b : Nat} {v : Nat → Int} {t : ByteArray} {T : TypeId} (h : w.heap[b]? = some (.cells (factC v t) T (0, 0))) :
    (∀ x : Wl w, x.1.cell? ⟨b, 0, none⟩ = some (.int .i64 (v 0))) ∧ (∀ x : Wl w, x.1.cell? ⟨b, 1, none⟩ = some (.int .i64 (v 1))) ∧ (∀ x : Wl w, x.1.cell? ⟨b, 2, none⟩ = some (.int .i64 (v 2))) ∧ (∀ x : Wl w, x.1.cell? ⟨b, 3, none⟩ = some (.int .i64 (v 3))) ∧ (∀ x : Wl w, x.1.cell? ⟨b, 4, none⟩ = some (.int .i64 (v 4))) ∧ (∀ x : Wl w, x.1.cell? ⟨b, 5, none⟩ = some (.int .i64 (v 5))) ∧ (∀ x : Wl w, x.1.cell? ⟨b, 6, none⟩ = some (.int .i64 (v 6))) ∧ (∀ x : Wl w, x.1.cell? ⟨b, 7, none⟩ = some (.int .i64 (v 7))) ∧ (∀ x : Wl w, x.1.cell? ⟨b, 8, none⟩ = some (.int .i64 (v 8))) ∧ (∀ x : Wl w, x.1.cell? ⟨b, 9, none⟩ = some (.int .i64 (v 9))) ∧ (∀ x : Wl w, x.1.cell? ⟨b, 10, none⟩ = some (.int .i64 (v 10))) ∧ (∀ x : Wl w, x.1.cell? ⟨b, 11, none⟩ = some (.int .i64 (v 11))) ∧ (∀ x : Wl w, x.1.cell? ⟨b, 12, none⟩ = some (.int .i64 (v 12))) ∧ (∀ x : Wl w, x.1.cell? ⟨b, 13, none⟩ = some (.int .i64 (v 13))) ∧ (∀ x : Wl w, x.1.cell? ⟨b, 14, none⟩ = some (.int .i64 (v 14))) ∧ (∀ x : Wl w, x.1.cell? ⟨b, 15, none⟩ = some (.int .i64 (v 15))) ∧ (∀ x : Wl w, x.1.cell? ⟨b, 16, none⟩ = some (.int .i64 (v 16))) ∧ (∀ x : Wl w, x.1.cell? ⟨b, 17, none⟩ = some (.string t)) := by
  refine ⟨fun x => ?_, fun x => ?_, fun x => ?_, fun x => ?_, fun x => ?_, fun x => ?_, fun x => ?_, fun x => ?_, fun x => ?_, fun x => ?_, fun x => ?_, fun x => ?_, fun x => ?_, fun x => ?_, fun x => ?_, fun x => ?_, fun x => ?_, fun x => ?_⟩ <;> (rw [cell_of_row _ _ _ _ _ _ (x.2.row h)]; rfl)
/-- A whole row of cells reads in one. -/
theorem load_row (w : World) (b n : Nat) (c : Array Value) (t : TypeId) (hc : w.heap[b]? = some (.cells c t (0, 0))) (hn : c.size = n) :
    (loadCellsFrom ⟨b, 0, none⟩ 0 n #[]).run Tryz.prog w = .ok c w := by
  subst hn
  have := run_loadCells_list (P := Tryz.prog) w ⟨b, 0, none⟩ c.toList (fun j v hv => by
    have hadd : (⟨b, 0, none⟩ : Addr).add j = ⟨b, j, none⟩ := by unfold Addr.add; split <;> simp_all
    rw [hadd, cell_of_row _ _ j c t (0, 0) hc]
    simpa using hv)
  simpa [loadCells] using this

set_option maxRecDepth 100000 in
set_option maxHeartbeats 4000000 in
theorem numbers_calls (b o : Nat) (w : World) :
    Calls Tryz.prog 81 #[.pointer (some ⟨b, o, none⟩)] w fun e W' => e = .returned (.agg (ptrL b o).toArray) ∧ Below w.heap.size w W' := by
  have hi : (Tryz.prog.info? 116).map (·.size) = some (ptrL b o).toArray.size := by kernel_rfl
  have hone := ptrL_one b o
  rw [ptrL_lit] at *
  go_enter Tryz.func81, Tryz.ntmps81
  go_wp2_with fail
  obtain ⟨W0, hW0, f0, b0⟩ : ∃ W0, w.alloc (.cells #[.pointer none, .pointer none, .pointer none, .pointer none, .pointer none, .pointer none, .pointer none, .pointer none, .pointer none, .pointer none, .pointer none, .pointer none, .pointer none, .pointer none, .pointer none, .pointer none, .pointer none] 116) = W0 ∧ W0.heap[w.heap.size]? = some (.cells #[.pointer none, .pointer none, .pointer none, .pointer none, .pointer none, .pointer none, .pointer none, .pointer none, .pointer none, .pointer none, .pointer none, .pointer none, .pointer none, .pointer none, .pointer none, .pointer none, .pointer none] 116 (0, 0)) ∧ Below w.heap.size w W0 := ⟨_, rfl, heap_new w _, (Below.refl _ _).alloc (Nat.le_refl _) _⟩
  rw [hW0]
  have F0 := Lib.hid f0
  clear f0 hW0
  go_still_tail 52, (by kernel_rfl)
  change wpList _ _ _ _ _ W0.drew
  refine wpList_store_row rfl 116 _ _ rfl w.heap.size _ rfl rfl 116 _ F0.out hi rfl hone ?_
  go_wp2_with fail
  refine bodyPost_ret (v := .agg (ptrL b o).toArray) ?_ rfl ?_
  · exact results_cell_row rfl _ _ w.heap.size 116 _ (0, 0) _ rfl (setRow_heap W0.drew w.heap.size _ _ 116 (0, 0) F0.out) Tryz.underlying116 rfl hi
  · exact ⟨rfl, below_setRow' b0.drew _ _ (Nat.le_refl _)⟩

end Go.Proofs.YtnndnjnpkjpkpaaGreatDoor
