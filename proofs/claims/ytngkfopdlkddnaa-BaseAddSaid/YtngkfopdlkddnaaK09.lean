/- The contract of the reference implementation's Root: it returns the plain root of the list. Condition: each entry has at most 400,000 bytes. | The contract of the laws' few: a row of its own with at most n strings, each cut to 60 bytes. | Contracts of the small functions of package digest: rotate, firstPart, splitLast, areDigests. | The contract of package digest's schedule: it returns the array of the 64 words of a block. | The contract of package digest's compress: it returns the array of the eight words that a block makes of eight words. Condition: the table of constants reads as the program lays it. -/
import Derived.Test.YtngkfopdlkddnaaK08
import Derived.Lib.Strings
import Derived.Deep.WholeRow
namespace Go.Proofs.Ytngkfopdlkddnaa
open Go.RowKit
/-- A slice of strings, as a walk reads it. -/
def Strs (w : World) (A : Option Addr) (l : List Bs) : Prop :=
  l = [] ∨ ∃ b o, A = some ⟨b, o, none⟩ ∧ ∀ i, i < l.length → w.cell? ⟨b, o + i, none⟩ = some (.string ⟨(l.getD i []).toArray⟩)
theorem Strs.keep {w w' : World} {A : Option Addr} {l : List Bs} (h : Strs w A l) (hb : Below w.heap.size w w') : Strs w' A l := by
  rcases h with h | ⟨b, o, rfl, h⟩
  · exact Or.inl h
  · exact Or.inr ⟨b, o, rfl, fun i hi => (hb.cell (p := ⟨b, o + i, none⟩) (lt_of_cell (h i hi))).trans (h i hi)⟩
def StrsAt (w : World) (b o : Nat) (l : List Bs) : Prop := ∀ i, i < l.length → w.cell? ⟨b, o + i, none⟩ = some (.string ⟨(l.getD i []).toArray⟩)
theorem StrsAt.keep {w w' : World} {b o : Nat} {l : List Bs} (h : StrsAt w b o l) (hb : Below w.heap.size w w') : StrsAt w' b o l := fun i hi =>
  (hb.cell (p := ⟨b, o + i, none⟩) (lt_of_cell (h i hi))).trans (h i hi)
theorem StrsAt.take {w : World} {b o : Nat} {l : List Bs} (h : StrsAt w b o l) (k : Nat) : StrsAt w b o (l.take k) := fun i hi => by
  have hi2 : i < k ∧ i < l.length := by rw [List.length_take] at hi; omega
  rw [h i hi2.2]
  simp only [List.getD_eq_getElem?_getD, List.getElem?_take, if_pos hi2.1]
theorem StrsAt.drop {w : World} {b o : Nat} {l : List Bs} (h : StrsAt w b o l) (k : Nat) : StrsAt w b (o + k) (l.drop k) := fun i hi => by
  rw [List.length_drop] at hi
  rw [Nat.add_assoc, h (k + i) (by omega)]
  simp only [List.getD_eq_getElem?_getD, List.getElem?_drop]

theorem mk_size (l : List UInt8) : (⟨l.toArray⟩ : ByteArray).size = l.length := rfl

def cellsS (l : List Bs) : List Value := l.map fun x => .string ⟨x.toArray⟩
theorem cellsS_snoc (l : List Bs) (x : Bs) : cellsS (l ++ [x]) = cellsS l ++ [.string ⟨x.toArray⟩] := by
  unfold cellsS; rw [List.map_append]; rfl
theorem cellsS_length (l : List Bs) : (cellsS l).length = l.length := by unfold cellsS; simp
/-- 64 words of which the first ones are set. -/
def fill64 (P : List Nat) : List Nat := P ++ List.replicate (64 - P.length) 0
theorem fill64_length (P : List Nat) (h : P.length ≤ 64) : (fill64 P).length = 64 := by
  unfold fill64; rw [List.length_append, List.length_replicate]; omega
theorem fill64_set (P : List Nat) (x : Nat) (h : P.length < 64) : (fill64 P).set P.length x = fill64 (P ++ [x]) := by
  unfold fill64
  rw [List.set_append_right _ _ (Nat.le_refl _), Nat.sub_self, List.append_assoc, List.length_append, List.length_singleton]
  rw [show 64 - P.length = (64 - (P.length + 1)) + 1 by omega, List.replicate_succ, List.set_cons_zero]
  rfl
theorem fill64_get (P : List Nat) (j : Nat) (h : j < P.length) : (fill64 P).getD j 0 = P.getD j 0 := by
  unfold fill64
  rw [List.getD_eq_getElem?_getD, List.getD_eq_getElem?_getD, List.getElem?_append_left h]
theorem fill64_full (P : List Nat) (h : P.length = 64) : fill64 P = P := by unfold fill64; rw [h]; simp
/-- A block that holds an array of words. -/
def Arr32 (w : World) (B : Nat) (t : TypeId) (l : List Nat) : Prop := w.heap[B]? = some (.cells (cells32 l).toArray t (0, 0))
def Arr8 (w : World) (B : Nat) (t : TypeId) (l : List UInt8) : Prop := w.heap[B]? = some (.cells (cells8 l).toArray t (0, 0))
theorem Arr32.cell {w : World} {B : Nat} {t : TypeId} {l : List Nat} (h : Arr32 w B t l) (j : Nat) (hj : j < l.length) : w.cell? ⟨B, j, none⟩ = some (.int .u32 ((l.getD j 0 : Nat) : Int)) := by
  rw [cell_of_row _ _ _ _ _ _ h]
  unfold cells32
  simp only [List.getElem?_toArray, List.getElem?_map, List.getD_eq_getElem?_getD, List.getElem?_eq_getElem hj]
  rfl
theorem Arr8.cell {w : World} {B : Nat} {t : TypeId} {l : List UInt8} (h : Arr8 w B t l) (j : Nat) (hj : j < l.length) : w.cell? ⟨B, j, none⟩ = some (.int .u8 (((l.getD j 0).toNat : Nat) : Int)) := by
  rw [cell_of_row _ _ _ _ _ _ h]
  unfold cells8
  simp only [List.getElem?_toArray, List.getElem?_map, List.getD_eq_getElem?_getD, List.getElem?_eq_getElem hj]
  rfl
theorem cells32_set (l : List Nat) (i x : Nat) : (cells32 l).toArray.setIfInBounds i (.int .u32 ((x : Nat) : Int)) = (cells32 (l.set i x)).toArray := by
  apply Array.ext'
  simp [cells32, List.map_set]
theorem Arr32.set {w : World} {B : Nat} {t : TypeId} {l : List Nat} (h : Arr32 w B t l) (i x : Nat) : Arr32 (w.setCell ⟨B, i, none⟩ (.int .u32 ((x : Nat) : Int))) B t (l.set i x) := by
  unfold Arr32
  rw [heap_setCell_same _ _ _ _ _ _ h, cells32_set]

/-- 64 zero words, as the walk lays them. -/
abbrev zeros64 : Array Value := #[.int .u32 0, .int .u32 0, .int .u32 0, .int .u32 0, .int .u32 0, .int .u32 0, .int .u32 0, .int .u32 0, .int .u32 0, .int .u32 0, .int .u32 0, .int .u32 0, .int .u32 0, .int .u32 0, .int .u32 0, .int .u32 0, .int .u32 0, .int .u32 0, .int .u32 0, .int .u32 0, .int .u32 0, .int .u32 0, .int .u32 0, .int .u32 0, .int .u32 0, .int .u32 0, .int .u32 0, .int .u32 0, .int .u32 0, .int .u32 0, .int .u32 0, .int .u32 0, .int .u32 0, .int .u32 0, .int .u32 0, .int .u32 0, .int .u32 0, .int .u32 0, .int .u32 0, .int .u32 0, .int .u32 0, .int .u32 0, .int .u32 0, .int .u32 0, .int .u32 0, .int .u32 0, .int .u32 0, .int .u32 0, .int .u32 0, .int .u32 0, .int .u32 0, .int .u32 0, .int .u32 0, .int .u32 0, .int .u32 0, .int .u32 0, .int .u32 0, .int .u32 0, .int .u32 0, .int .u32 0, .int .u32 0, .int .u32 0, .int .u32 0, .int .u32 0]
theorem cells32_one (l : List Nat) : (cells32 l).toArray.all (·.oneCell') = true := by
  rw [Array.all_eq_true_iff_forall_mem]
  intro x hx
  obtain ⟨y, _, rfl⟩ := List.mem_map.1 (List.mem_toArray.1 hx)
  rfl
theorem below_setRow {B : Nat} {a w : World} (h : Below B a w) (g : Nat) (cs : Array Value) (hg : B ≤ g) : Below B a (w.setRow g cs) :=
  h.trans ⟨rfl, rfl, rfl, by simp, fun k hk => setRow_other _ _ _ _ (by omega)⟩
theorem alloc3 (w : World) (A B C : Obj) : ((w.alloc A).alloc B).alloc C = ((w.alloc A).alloc B).alloc C ∧ (((w.alloc A).alloc B).alloc C).heap[w.heap.size]? = some A ∧ (((w.alloc A).alloc B).alloc C).heap[w.heap.size + 1]? = some B ∧
    (((w.alloc A).alloc B).alloc C).heap[w.heap.size + 2]? = some C ∧ Below w.heap.size w (((w.alloc A).alloc B).alloc C) := by
  refine ⟨rfl, ?_, ?_, ?_, (((Below.refl _ w).alloc (Nat.le_refl _) _).alloc (by simp) _).alloc (by simp; omega) _⟩
  · rw [heap_alloc_old, heap_alloc_old, heap_alloc_new] <;> (simp <;> omega)
  · have h := heap_alloc_new (w.alloc A) B
    have h2 : (((w.alloc A).alloc B).alloc C).heap[w.heap.size + 1]? = ((w.alloc A).alloc B).heap[w.heap.size + 1]? := heap_alloc_old _ _ (by simp)
    rw [h2]
    simpa using h
  · have := heap_alloc_new ((w.alloc A).alloc B) C
    simpa using this

/-- 8 zero words, as the walk lays them. -/
abbrev zeros8 : Array Value := #[.int .u32 0, .int .u32 0, .int .u32 0, .int .u32 0, .int .u32 0, .int .u32 0, .int .u32 0, .int .u32 0]
end Go.Proofs.Ytngkfopdlkddnaa
