/- Words for the walks of layer 2: rows of bytes, of words and of strings. -/
import Derived.Test.YtnbeebndcgoalaaDoorDLeft
import Derived.Maps.AppendAt
import Derived.Below
import Derived.Laws.BytesArg
import Derived.OwnWalk
import Derived.RangeFuncBox
import Derived.BigRegion
import Derived.Deep.QuietTactic
import Derived.BigQuiet
import Derived.Deep.RegionHeld3
namespace Go.Proofs.YtnbeebndcgoalaaDoor
open Go.RowKit
theorem cells8_length (l : List UInt8) : (cells8 l).length = l.length := by unfold cells8; simp
def cells32 (l : List Nat) : List Value := l.map fun x => .int .u32 ((x : Nat) : Int)
theorem cells32_snoc (l : List Nat) (x : Nat) : cells32 (l ++ [x]) = cells32 l ++ [.int .u32 (x : Int)] := by
  unfold cells32; rw [List.map_append]; rfl
theorem cells32_length (l : List Nat) : (cells32 l).length = l.length := by unfold cells32; simp

/-- The length of a slice value. -/
def lenV : Value → Nat
  | .slice _ n _ => n
  | _ => 0
theorem take_snoc (s : ByteArray) (k : Nat) (h : k < s.size) : s.data.toList.take (k + 1) = s.data.toList.take k ++ [s[k]] := by
  rw [List.take_succ_eq_append_getElem (by simpa using h)]; rfl
end Go.Proofs.YtnbeebndcgoalaaDoor
