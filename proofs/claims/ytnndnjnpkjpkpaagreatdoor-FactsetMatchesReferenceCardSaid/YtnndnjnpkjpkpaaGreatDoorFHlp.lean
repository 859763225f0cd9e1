/- Words for the laws' walks, and the contract of the laws' sane. Conditions: the table of constants reads as the program lays it; the variable errForm holds an error of its own. -/
import Derived.Test.YtnndnjnpkjpkpaaGreatDoorFPrv
import Derived.Test.YtnndnjnpkjpkpaaGreatDoorFQl
import Derived.Test.YtnndnjnpkjpkpaaGreatDoorFMea
import Derived.Test.YtnndnjnpkjpkpaaGreatDoorChecked
import Derived.Test.YtnndnjnpkjpkpaaGreatDoorFVal
namespace Go.Proofs.YtnndnjnpkjpkpaaGreatDoor
open Go.RowKit
theorem wpList_load_fact {ops : Array Oper} {rest : List Oper} {o : Oper} {a : Act} {w : World} {Q : Exit → Act → World → Prop} (hw : Region.wanted o (yielded ops a.tmps) = true) (x : Operand) (ho : o.op = .load 40 x)
    (g : Nat) (hx : a.eval x = .pointer (some ⟨g, 0, none⟩)) (v : Nat → Int) (t : ByteArray) (hg : w.heap[g]? = some (.cells (factC v t) 40 (0, 0)))
    (h : wpList Tryz.prog ops Q rest (a.put o.dst (.agg (factC v t))) w) : wpList Tryz.prog ops Q (o :: rest) a w :=
  wpList_step fun _ hK => by
    rw [if_pos hw]
    exact wp_load_row 40 x ho g hx 40 (factC v t) (0, 0) _ hg Tryz.underlying40 rfl (hiC v t) (hK _ _ h)
/-- A fact with another ID. -/
def oddV : Nat → Int := fun i => if i = 1 then 1 else rateV 1 1000000 i
theorem sane_ok : okT (rateV 1 1000000) ⟨#[]⟩ = true := by decide +kernel
theorem sane_odd : okT oddV ⟨#[]⟩ = false := by decide +kernel
theorem sane_zero : okT (rateV 1 0) ⟨#[]⟩ = false := by decide +kernel
theorem sane_25 : okT (rateV 2 5) ⟨#[]⟩ = true := by decide +kernel
theorem sane_19 : okT (rateV 1 9) ⟨#[]⟩ = true := by decide +kernel
/-- The example's encoding. -/
def codeL : List UInt8 := [14, 0, 2, 10, 0, 0, 0, 0, 0, 0, 0, 0, 0, 128, 137, 122, 0, 6, 0, 0]
theorem sane_code : encV (rateV 1 1000000) [] = codeL := by decide +kernel
theorem shaF_length (l : List UInt8) : (shaF l).length = 32 := rfl

theorem results_fact_tmp {fn : Func} {p q : Tmp} (h : fn.results = #[.cell p 40, .tmp q]) (tmps : Array Value) (w : World) (g : Nat) (v : Nat → Int) (t : ByteArray) (x : Value)
    (hp : tmps.getD p undef = .pointer (some ⟨g, 0, none⟩)) (hg : w.heap[g]? = some (.cells (factC v t) 40 (0, 0))) (hq : tmps.getD q undef = x) :
    (results fn tmps).run Tryz.prog w = .ok (.tuple #[.agg (factC v t), x]) w := by
  have hq' : tmps[q]?.getD undef = x := by simpa using hq
  have hp' : tmps[p]?.getD undef = .pointer (some ⟨g, 0, none⟩) := by simpa using hp
  have hl := run_loadVar_row w g 40 40 (factC v t) (0, 0) _ hg Tryz.underlying40 rfl (hiC v t)
  generalize factC v t = c at *
  simp [results, h, hp', asAddr, hl, hq']
end Go.Proofs.YtnndnjnpkjpkpaaGreatDoor
