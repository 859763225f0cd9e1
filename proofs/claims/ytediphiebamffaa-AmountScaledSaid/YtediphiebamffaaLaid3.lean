/- How the laws' arguments read. -/
import Derived.Test.YtediphiebamffaaRows
import Derived.Test.YtediphiebamffaaHelp
import Derived.ProofKit
import Derived.OpenShut
import Derived.ChangeOld
import Derived.Stop.Joined
import Derived.Lib.SmallJoins
namespace Go.Proofs.Ytediphiebamffaa
open Go.ChangeShapes Go.WideShapes Go.ChangeAt Go.RowKit

theorem own : ownKnob Try.prog.godebug = none := by kernel_rfl
theorem laidOut : laidOutB Try.prog = true := by kernel_rfl
theorem cInt : Try.prog.cellsOf 3 = 1 := by kernel_rfl
theorem spot_none {w : World} {b o : Nat} {sp : Option Nat} {v : Value} (h : w.cell? (Addr.add ⟨b, o, sp⟩ 0) = some v) : sp = none := by
  simpa [Addr.add] using World.cell?_spot h
theorem add_plain (b o i : Nat) : Addr.add ⟨b, o, none⟩ i = ⟨b, o + i, none⟩ := by
  unfold Addr.add; split <;> simp_all
theorem ints_arg {H : Type} {enc : TypeId × Value → H} {W : World} {base : Nat} {v : Value} {d : DataW H} {p : List MemPlace}
    (hv : Value.okWide Try.prog W .any base 29 v) (h : DataW.Trod enc Try.prog W 0 (fun _ => true) true 29 v d p) :
    ∃ A l cap, v = .slice A l.length cap ∧ Arg W A l cap := by
  obtain ⟨a, len, cap, rfl⟩ := okWide_slice Try.underlying29 hv
  obtain ⟨fuel, hf⟩ := h
  rcases open_ints Try.underlying29 Try.underlying3 cInt hf with ⟨hcs, _⟩ | ⟨x, l, c, zs, hcs, _, hl, hm, hz, _, hcell, hwz⟩
  · simp [Value.cells] at hcs
    obtain ⟨rfl, rfl, rfl⟩ := hcs
    exact ⟨none, [], 0, rfl, ⟨Or.inl ⟨rfl, rfl, rfl⟩, fun x hx => by simp at hx, Nat.le_refl _, by omega⟩⟩
  · simp [Value.cells] at hcs
    obtain ⟨rfl, rfl, rfl⟩ := hcs
    unfold maxLen at hm
    have hzl : zs.length = cap := by simpa using hz
    have hlen : (zs.take len).length = len := by rw [List.length_take]; omega
    refine ⟨some x, zs.take len, cap, by rw [hlen], ⟨?_, ?_, by omega, by omega⟩⟩
    · by_cases h0 : len = 0
      · subst h0
        exact Or.inr (Or.inl ⟨rfl, x, rfl⟩)
      · right; right
        obtain ⟨b, o, sp⟩ := x
        obtain rfl := spot_none (hcell 0 (by omega))
        refine ⟨b, o, rfl, fun i hi => ?_⟩
        rw [hlen] at hi
        have hc := hcell i (by omega)
        rw [add_plain] at hc
        rw [hc]
        simp only [List.getD_eq_getElem?_getD, List.getElem?_take, if_pos hi]
    · intro y hy
      exact bounds_i64 (hwz y (List.mem_of_mem_take hy))
end Go.Proofs.Ytediphiebamffaa
