/- What the rows' condition gives the walks: the table of constants reads as the program lays it. -/
import Derived.Test.YtmmlneghhjjciaaDoorRows
import Derived.Test.YtmmlneghhjjciaaDoorTie
import Derived.Test.YtmmlneghhjjciaaDoorCards
import Derived.Test.YtmmlneghhjjciaaDoorHelp
import Derived.ProofKit
import Derived.LaidMore
import Derived.OpenShut
import Derived.ShutString
import Derived.ChangeOld
import Derived.Stop.Joined
import Derived.Lib.LaidTab
import Derived.SevenTiedAt
import Derived.Lib.SmallJoins
namespace Go.Proofs.YtmmlneghhjjciaaDoor
open Go.ChangeShapes Go.WideShapes Go.ChangeAt Go.WideMaps Go.WideElems Go.RowKit

/-- The lengths, as a list. -/
def lenL : List Nat := [31, 28, 31, 30, 31, 30, 31, 31, 30, 31, 30, 31]
theorem own : ownKnob Tryd.prog.godebug = none := by kernel_rfl
theorem laidOut : laidOutB Tryd.prog = true := by kernel_rfl
/-- What the rows list. -/
def laidL : List (String × DataW Unit) := Rows.periodYearsRow.laid
def constName : String := (laidL.map (·.1)).headD ""
theorem laidL_eq : laidL = [(constName, Lib.tabData .i64 (lenL.map fun n => ((n : Nat) : Int)))] := by kernel_rfl
theorem gConst : Tryd.prog.globalNamed constName = some 0 := by kernel_rfl
theorem tConst : (Tryd.prog.globals[0]?).map (·.type) = some 39 := by kernel_rfl
theorem cI : Tryd.prog.cellsOf 3 = 1 := by kernel_rfl
theorem cTab : Tryd.prog.cellsOf 39 = 12 := by kernel_rfl

theorem door_met (os : Os) (args : Array Value) : laidMetH Tryd.prog laidL ((World.doorLaid Tryd.prog 400 os).forCall (fun _ _ => 0) ⟨#[], args, []⟩).memory :=
  laidMetH_of_parts3 (fuel := 8) (laidMet_of_run' 8 (by kernel_rfl) (by kernel_rfl)) (by kernel_rfl) (by kernel_rfl)

theorem konst_of_laid {W : World} (h : laidMetH Tryd.prog laidL W) : Konst W := by
  rw [MakeChecks.laidMetH_plain _ _ _ (by kernel_rfl), laidL_eq] at h
  have hT := Lib.tabIs_of_head gConst tConst Tryd.underlying39 Tryd.underlying3 cI cTab h
  intro i hi
  have hc := hT.cell gConst i (by rw [List.length_map]; exact hi)
  have e : ∀ i, i < 12 → ((lenL.map fun n => ((n : Nat) : Int)).getD i 0) = ((tblN i : Nat) : Int) := by decide
  rw [e i hi] at hc
  exact hc

end Go.Proofs.YtmmlneghhjjciaaDoor
