/- The contract of the laws' few: a row of its own with at most n strings, each cut to 60 bytes. -/
import Derived.Test.YtnbeebndcgoalaaDoorDRefRoot
import Derived.Lib.Strings
namespace Go.Proofs.YtnbeebndcgoalaaDoor
open Go.RowKit
def cellsS (l : List Bs) : List Value := l.map fun x => .string ⟨x.toArray⟩
theorem cellsS_snoc (l : List Bs) (x : Bs) : cellsS (l ++ [x]) = cellsS l ++ [.string ⟨x.toArray⟩] := by
  unfold cellsS; rw [List.map_append]; rfl
theorem cellsS_length (l : List Bs) : (cellsS l).length = l.length := by unfold cellsS; simp
end Go.Proofs.YtnbeebndcgoalaaDoor
