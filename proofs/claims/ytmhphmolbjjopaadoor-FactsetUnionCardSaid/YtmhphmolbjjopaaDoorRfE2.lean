/- The reference implementation's Encode, ID and Prevails: they return what the program's do. No further condition. -/
import Derived.Test.YtmhphmolbjjopaaDoorRfV
import Derived.Test.YtmhphmolbjjopaaDoorRfA
import Derived.Test.YtmhphmolbjjopaaDoorDRefSum
namespace Go.Proofs.YtmhphmolbjjopaaDoor
open Go.RowKit
theorem refValid_eq (v : Nat → Int) (t : ByteArray) (c : Bool) (h : okT v t = c) (w : World) : Calls Tryd.prog 31 #[.agg (factC v t)] w fun e W' => e = .returned (.bool c) ∧ Below w.heap.size w W' := h ▸ refValid_calls v t w

set_option maxRecDepth 100000 in
theorem refEncode_calls (v : Nat → Int) (t : ByteArray) (w : World) : Calls Tryd.prog 37 #[.agg (factC v t)] w fun e W' => e = .returned (.tuple #[.string ⟨(codeF v t).toArray⟩, .int .i64 (errF v t)]) ∧ Below w.heap.size w W' := by
  rcases hc : okT v t with _ | _
  · have HV := Lib.hid (fun W => refValid_eq v t false hc W)
    have e1 : codeF v t = [] := by unfold codeF; rw [hc]; rfl
    have e2 : errF v t = 50 := by unfold errF; rw [hc]; rfl
    rw [e1, e2]
    clear hc e1 e2
    go_enter Tryd.func37, Tryd.ntmps37
    go_upto_region 1 with (fail)
    obtain ⟨W0, hW0, f0, b0⟩ := one_row w (factC v t) 33
    rw [hW0]
    clear hW0
    have F0 := Lib.hid f0
    clear f0
    go_wp2_with (refine wpList_load_row rfl 33 _ rfl w.heap.size rfl _ _ _ _ F0.out Tryd.underlying33 rfl (hiC _ _) ?_)
    refine (HV.out _).mono ?_
    rintro e W1 ⟨rfl, b1⟩
    go_wp2_with fail
    go_ret2
    exact ⟨rfl, b0.trans (b1.mono b0.size)⟩
  · have HV := Lib.hid (fun W => refValid_eq v t true hc W)
    have HE := Lib.hid (fun W => refWritten_calls v t W (okT_fits hc))
    have e1 : codeF v t = encV v t.data.toList := by unfold codeF; rw [hc]; rfl
    have e2 : errF v t = 0 := by unfold errF; rw [hc]; rfl
    rw [e1, e2]
    clear hc e1 e2
    generalize encV v t.data.toList = E at *
    go_enter Tryd.func37, Tryd.ntmps37
    go_upto_region 1 with (fail)
    obtain ⟨W0, hW0, f0, b0⟩ := one_row w (factC v t) 33
    rw [hW0]
    clear hW0
    have F0 := Lib.hid f0
    clear f0
    go_wp2_with (refine wpList_load_row rfl 33 _ rfl w.heap.size rfl _ _ _ _ F0.out Tryd.underlying33 rfl (hiC _ _) ?_)
    refine (HV.out _).mono ?_
    rintro e W1 ⟨rfl, b1⟩
    have F1 := Lib.hid (Hl.row b1 F0.out)
    go_wp2_with (refine wpList_load_row rfl 33 _ rfl w.heap.size rfl _ _ _ _ F1.out Tryd.underlying33 rfl (hiC _ _) ?_)
    refine (HE.out _).mono ?_
    rintro e W2 ⟨rfl, b2⟩
    go_wp2_with fail
    go_ret2
    exact ⟨rfl, (b0.trans (b1.mono b0.size)).trans (b2.mono (by have := b0.size; have := b1.size; omega))⟩
end Go.Proofs.YtmhphmolbjjopaaDoor
