/- The walk of WireUnique: for every string, integer and byte it returns true, and nothing that was there has changed. Conditions: the integer is an int64, the table reads as the program lays it. -/
import Derived.Test.YtnndnjnpkjpkpaaGreatDoorWWire
import Derived.RegionTactic
import Derived.ChangeAlike
namespace Go.Proofs.YtnndnjnpkjpkpaaGreatDoor
open Go.RowKit
theorem piece_eq (t : ByteArray) (q m : Nat) (l : List UInt8) (h : (t.data.toList.take m).drop q = l) : ((t.extract q m).toList == l) = true := by
  rw [ByteArray.toList_eq, Lib.extract_data, ← List.drop_take, h]
  simp

end Go.Proofs.YtnndnjnpkjpkpaaGreatDoor
