/- A fact loaded whole in a region that draws its order. -/
import Derived.Test.YtnndnjnpkjpkpaaGreatDoorFSam
namespace Go.Proofs.YtnndnjnpkjpkpaaGreatDoor
open Go.RowKit
theorem quiet_load_row {o : Oper} {a : Act} {K : Act → Prop} {w0 : World} (x : Operand) (ho : o.op = .load 40 x) (g : Nat) (hx : a.eval x = .pointer (some ⟨g, 0, none⟩)) (v : Nat → Int) (t : ByteArray)
    (hg : w0.heap[g]? = some (.cells (factC v t) 40 (0, 0))) (h : K (a.put o.dst (.agg (factC v t)))) : o.quiet Tryz.prog a (fun w' => ∃ x : Wl w0, w' = x.1) K := by
  refine ⟨.agg (factC v t), ?_, h⟩
  rintro w ⟨y, rfl⟩
  have hl := run_loadVar_row y.1 g 40 40 (factC v t) (0, 0) _ (y.2.row hg) Tryz.underlying40 rfl (hiC v t)
  generalize factC v t = c at *
  unfold Oper.quietAt execOp
  simp only [ho, hx, Instr.loadAt, Instr.sureAddr, Sem.run_bind, Sem.run_pure, Result.andThen_ok, hl]
  exact ⟨rfl, rfl⟩
end Go.Proofs.YtnndnjnpkjpkpaaGreatDoor
