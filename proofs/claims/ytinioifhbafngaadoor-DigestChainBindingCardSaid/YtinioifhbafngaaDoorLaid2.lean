/- What the rows' condition gives the walks: the table of constants reads as the program lays it. -/
import Derived.Test.YtinioifhbafngaaDoorRows
import Derived.Test.YtinioifhbafngaaDoorTie
import Derived.Test.YtinioifhbafngaaDoorCards
import Derived.Test.YtinioifhbafngaaDoorSane2
import Derived.ProofKit
import Derived.LaidMore
import Derived.OpenShut
import Derived.ShutString
import Derived.ChangeOld
import Derived.Stop.Joined
import Derived.Lib.LaidTab
import Derived.SevenTiedAt
import Derived.Lib.SmallJoins
namespace Go.Proofs.YtinioifhbafngaaDoor
open Go.ChangeShapes Go.WideShapes Go.ChangeAt Go.WideMaps Go.WideElems Go.RowKit

theorem own : ownKnob Tryd.prog.godebug = none := by kernel_rfl
theorem laidOut : laidOutB Tryd.prog = true := by kernel_rfl
/-- What the rows list. -/
def laidL : List (String × DataW Unit) := Rows.digestSumMatchesReferenceRow.laid
def constName : String := (laidL.map (·.1)).headD ""
theorem laidL_eq : laidL = [(constName, Lib.tabData .u32 (shaK.map fun n => ((n : Nat) : Int)))] := by kernel_rfl
theorem gConst : Tryd.prog.globalNamed constName = some 0 := by kernel_rfl
theorem tConst : (Tryd.prog.globals[0]?).map (·.type) = some 69 := by kernel_rfl
theorem cU32 : Tryd.prog.cellsOf 47 = 1 := by kernel_rfl
theorem cTab : Tryd.prog.cellsOf 69 = 64 := by kernel_rfl

theorem door_met (os : Os) (args : Array Value) : laidMetH Tryd.prog laidL ((World.doorLaid Tryd.prog 400 os).forCall (fun _ _ => 0) ⟨#[], args, []⟩).memory :=
  laidMetH_of_parts3 (fuel := 8) (laidMet_of_run' 8 (by kernel_rfl) (by kernel_rfl)) (by kernel_rfl) (by kernel_rfl)

theorem konst_of_laid {W : World} (h : laidMetH Tryd.prog laidL W) : Konst W := by
  rw [MakeChecks.laidMetH_plain _ _ _ (by kernel_rfl), laidL_eq] at h
  have hT := Lib.tabIs_of_head gConst tConst Tryd.underlying69 Tryd.underlying47 cU32 cTab h
  intro i hi
  have hi2 : i < 64 := hi
  have hc := hT.cell gConst i (by simpa using hi)
  rw [Nat.zero_add, hc]
  simp [List.getElem?_map, List.getD_eq_getElem?_getD, List.getElem?_eq_getElem hi]

theorem spot_none {w : World} {b o : Nat} {sp : Option Nat} {v : Value} (h : w.cell? (Addr.add ⟨b, o, sp⟩ 0) = some v) : sp = none := by
  simpa [Addr.add] using World.cell?_spot h

theorem add_plain (b o i : Nat) : Addr.add ⟨b, o, none⟩ i = ⟨b, o + i, none⟩ := by
  unfold Addr.add; split <;> simp_all

theorem cStr : Tryd.prog.cellsOf 9 = 1 := by kernel_rfl

/-- How a slice of strings that came in reads. -/
theorem strs_view {H : Type} {enc : TypeId × Value → H} {W : World} {base : Nat} {v : Value} {d : DataW H} {p : List MemPlace}
    (hv : Value.okWide Tryd.prog W .any base 26 v) (h : DataW.Trod enc Tryd.prog W 0 (fun _ => true) true 26 v d p) :
    ∃ (a : Option Addr) (l : List Bs) (cap : Nat), v = .slice a l.length cap ∧ l.length ≤ cap ∧ l.length ≤ 9223372036854775807 ∧ Strs W a l ∧ ∀ x ∈ l, x.length ≤ 9223372036854775807 := by
  obtain ⟨a, len, cap, rfl⟩ := okWide_slice Tryd.underlying26 hv
  obtain ⟨fuel, hf⟩ := h
  rcases open_strings Tryd.underlying26 Tryd.underlying9 cStr hf with ⟨hcs, _⟩ | ⟨x, l, c, zs, hcs, _, hl, hm, hz, _, hcell, hwz⟩
  · simp [Value.cells] at hcs
    obtain ⟨rfl, rfl, rfl⟩ := hcs
    exact ⟨none, [], 0, rfl, Nat.le_refl _, by simp, Or.inl rfl, fun x hx => by simp at hx⟩
  · simp [Value.cells] at hcs
    obtain ⟨rfl, rfl, rfl⟩ := hcs
    unfold maxLen at hm
    have hzl : zs.length = cap := by simpa using hz
    by_cases h0 : len = 0
    · subst h0
      exact ⟨some x, [], cap, rfl, Nat.zero_le _, by simp, Or.inl rfl, fun x hx => by simp at hx⟩
    · obtain ⟨b, o, sp⟩ := x
      obtain rfl := spot_none (hcell 0 (by omega))
      have hL : ((zs.take len).map fun t => t.data.toList).length = len := by rw [List.length_map, List.length_take]; omega
      refine ⟨some ⟨b, o, none⟩, (zs.take len).map fun t => t.data.toList, cap, by rw [hL], by omega, by omega, Or.inr ⟨b, o, rfl, fun i hi => ?_⟩, fun x hx => ?_⟩
      · rw [hL] at hi
        have hc := hcell i (by omega)
        rw [add_plain] at hc
        rw [hc]
        simp [List.getD_eq_getElem?_getD, List.getElem?_take_of_lt hi, List.getElem?_eq_getElem (show i < zs.length by omega)]
      · obtain ⟨t, ht, rfl⟩ := List.mem_map.1 hx
        have := hwz t (List.mem_of_mem_take ht)
        unfold maxLen at this
        simpa using this

end Go.Proofs.YtinioifhbafngaaDoor
