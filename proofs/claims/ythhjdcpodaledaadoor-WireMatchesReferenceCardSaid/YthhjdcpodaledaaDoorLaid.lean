/- What the rows' condition gives the walks: the table of shifts reads as the program lays it. -/
import Derived.Test.YthhjdcpodaledaaDoorRows
import Derived.Test.YthhjdcpodaledaaDoorTie
import Derived.Test.YthhjdcpodaledaaDoorCards
import Derived.Test.YthhjdcpodaledaaDoorSane
import Derived.ProofKit
import Derived.LaidMore
import Derived.OpenShut
import Derived.ShutString
import Derived.ChangeOld
import Derived.Stop.Joined
import Derived.Lib.LaidTab
import Derived.SevenTiedAt
import Derived.Lib.SmallJoins
namespace Go.Proofs.YthhjdcpodaledaaDoor
open Go.ChangeShapes Go.WideShapes Go.ChangeAt Go.WideMaps Go.WideElems Go.RowKit

theorem own : ownKnob Tryd.prog.godebug = none := by kernel_rfl
theorem laidOut : laidOutB Tryd.prog = true := by kernel_rfl
/-- What the rows list. -/
def laidL : List (String × DataW Unit) := Rows.wireRoundTripRow.laid
def shiftsName : String := (laidL.map (·.1)).headD ""
theorem laidL_eq : laidL = [(shiftsName, Lib.tabData .u32 (tab.map fun n => ((n : Nat) : Int)))] := by kernel_rfl
theorem gShifts : Tryd.prog.globalNamed shiftsName = some 0 := by kernel_rfl
theorem tShifts : (Tryd.prog.globals[0]?).map (·.type) = some 57 := by kernel_rfl
theorem cU32 : Tryd.prog.cellsOf 43 = 1 := by kernel_rfl
theorem cTab : Tryd.prog.cellsOf 57 = 16 := by kernel_rfl

theorem door_met (os : Os) (args : Array Value) : laidMetH Tryd.prog laidL ((World.doorLaid Tryd.prog 400 os).forCall (fun _ _ => 0) ⟨#[], args, []⟩).memory :=
  laidMetH_of_parts3 (fuel := 8) (laidMet_of_run' 8 (by kernel_rfl) (by kernel_rfl)) (by kernel_rfl) (by kernel_rfl)

theorem table_of_laid {W : World} (h : laidMetH Tryd.prog laidL W) : Table W := by
  rw [MakeChecks.laidMetH_plain _ _ _ (by kernel_rfl), laidL_eq] at h
  have hT := Lib.tabIs_of_head gShifts tShifts Tryd.underlying57 Tryd.underlying43 cU32 cTab h
  intro i hi
  rw [hT.cell gShifts i (by simpa [tab] using hi)]
  simp [List.getElem?_map]
  cases tab[i]? <;> rfl

/-- An array of two strings. -/
theorem open_pair {H : Type} {enc : TypeId × Value → H} {W : World} {base : Nat} {sp : Nat → Bool} {held : Bool} {v : Value} {d : DataW H} {p : List MemPlace}
    (hv : Value.okWide Tryd.prog W .any base 36 v) (h : DataW.Trod enc Tryd.prog W 0 sp held 36 v d p) :
    ∃ a b : ByteArray, v = .agg #[.string a, .string b] ∧ a.size ≤ 9223372036854775807 ∧ b.size ≤ 9223372036854775807 := by
  simp only [Value.okWide, Tryd.underlying36] at hv
  obtain ⟨cs, rfl, hsz, _⟩ := hv
  obtain ⟨c0, c1, rfl⟩ := Joins.array2 (hsz.trans (by kernel_rfl))
  obtain ⟨fuel, hf⟩ := h
  obtain ⟨xs, m, _, _, _, hn, hel⟩ := DataW.trod_array Tryd.underlying36 hf
  have hc : Tryd.prog.cellsOf 9 = 1 := by kernel_rfl
  have h0 := hel 0 (by decide)
  have h1 := hel 1 (by decide)
  rw [hc] at h0 h1
  match xs, hn with
  | [y0, y1], _ =>
    obtain ⟨a, ea, _, ha⟩ := DataW.trod_string Tryd.underlying9 h0
    obtain ⟨b, eb, _, hb⟩ := DataW.trod_string Tryd.underlying9 h1
    simp [Value.cells] at ea eb
    subst ea eb
    exact ⟨a, b, rfl, ha, hb⟩

end Go.Proofs.YthhjdcpodaledaaDoor
