/- The contract of the reference implementation's Root: it returns the plain root of the list. Condition: each entry has at most 400,000 bytes. -/
import Derived.Test.YtnbeebndcgoalaaDoorDRefSum
namespace Go.Proofs.YtnbeebndcgoalaaDoor
open Go.RowKit
/-- A slice of strings, as a walk reads it. -/
def Strs (w : World) (A : Option Addr) (l : List Bs) : Prop :=
  l = [] ∨ ∃ b o, A = some ⟨b, o, none⟩ ∧ ∀ i, i < l.length → w.cell? ⟨b, o + i, none⟩ = some (.string ⟨(l.getD i []).toArray⟩)
theorem Strs.keep {w w' : World} {A : Option Addr} {l : List Bs} (h : Strs w A l) (hb : Below w.heap.size w w') : Strs w' A l := by
  rcases h with h | ⟨b, o, rfl, h⟩
  · exact Or.inl h
  · exact Or.inr ⟨b, o, rfl, fun i hi => (hb.cell (p := ⟨b, o + i, none⟩) (lt_of_cell (h i hi))).trans (h i hi)⟩
def StrsAt (w : World) (b o : Nat) (l : List Bs) : Prop := ∀ i, i < l.length → w.cell? ⟨b, o + i, none⟩ = some (.string ⟨(l.getD i []).toArray⟩)
theorem StrsAt.keep {w w' : World} {b o : Nat} {l : List Bs} (h : StrsAt w b o l) (hb : Below w.heap.size w w') : StrsAt w' b o l := fun i hi =>
  (hb.cell (p := ⟨b, o + i, none⟩) (lt_of_cell (h i hi))).trans (h i hi)
theorem StrsAt.take {w : World} {b o : Nat} {l : List Bs} (h : StrsAt w b o l) (k : Nat) : StrsAt w b o (l.take k) := fun i hi => by
  have hi2 : i < k ∧ i < l.length := by rw [List.length_take] at hi; omega
  rw [h i hi2.2]
  simp only [List.getD_eq_getElem?_getD, List.getElem?_take, if_pos hi2.1]
theorem StrsAt.drop {w : World} {b o : Nat} {l : List Bs} (h : StrsAt w b o l) (k : Nat) : StrsAt w b (o + k) (l.drop k) := fun i hi => by
  rw [List.length_drop] at hi
  rw [Nat.add_assoc, h (k + i) (by omega)]
  simp only [List.getD_eq_getElem?_getD, List.getElem?_drop]

theorem mk_size (l : List UInt8) : (⟨l.toArray⟩ : ByteArray).size = l.length := rfl

end Go.Proofs.YtnbeebndcgoalaaDoor
