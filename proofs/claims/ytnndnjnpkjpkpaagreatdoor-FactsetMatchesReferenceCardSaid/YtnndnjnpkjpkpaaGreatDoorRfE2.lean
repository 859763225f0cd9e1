/- The reference implementation's Encode, ID and Prevails: they return what the program's do. No further condition. -/
import Derived.Test.YtnndnjnpkjpkpaaGreatDoorRfV
import Derived.Test.YtnndnjnpkjpkpaaGreatDoorRfA
import Derived.Test.YtnndnjnpkjpkpaaGreatDoorDRefSum
namespace Go.Proofs.YtnndnjnpkjpkpaaGreatDoor
open Go.RowKit
theorem refValid_eq (v : Nat → Int) (t : ByteArray) (c : Bool) (h : okT v t = c) (w : World) : Calls Tryz.prog 32 #[.agg (factC v t)] w fun e W' => e = .returned (.bool c) ∧ Below w.heap.size w W' := h ▸ refValid_calls v t w

set_option maxRecDepth 100000 in
theorem refEncode_calls (v : Nat → Int) (t : ByteArray) (w : World) : Calls Tryz.prog 50 #[.agg (factC v t)] w fun e W' => e = .returned (.tuple #[.string ⟨(codeF v t).toArray⟩, .int .i64 (errF v t)]) ∧ Below w.heap.size w W' := by
  rcases hc : okT v t with _ | _
  · have HV := Lib.hid (fun W => refValid_eq v t false hc W)
    have e1 : codeF v t = [] := by unfold codeF; rw [hc]; rfl
    have e2 : errF v t = 50 := by unfold errF; rw [hc]; rfl
    rw [e1, e2]
    clear hc e1 e2
    go_enter Tryz.func50, Tryz.ntmps50
    go_upto_region 1 with (fail)
    obtain ⟨W0, hW0, f0, b0⟩ := one_row w (factC v t) 40
    rw [hW0]
    clear hW0
    have F0 := Lib.hid f0
    clear f0
    go_wp2_with (refine wpList_load_row rfl 40 _ rfl w.heap.size rfl _ _ _ _ F0.out Tryz.underlying40 rfl (hiC _ _) ?_)
    refine (HV.out _).mono ?_
    rintro e W1 ⟨rfl, b1⟩
    go_wp2_with fail
    go_ret2
    exact ⟨rfl, b0.trans (b1.mono b0.size)⟩
  · have HV := Lib.hid (fun W => refValid_eq v t true hc W)
    have HE := Lib.hid (fun W => refWritten_calls v t W (okT_fits hc))
    have e1 : codeF v t = encV v t.data.toList := by unfold codeF; rw [hc]; rfl
    have e2 : errF v t = 0 := by unfold errF; rw [hc]; rfl
    rw [e1, e2]
    clear hc e1 e2
    generalize encV v t.data.toList = E at *
    go_enter Tryz.func50, Tryz.ntmps50
    go_upto_region 1 with (fail)
    obtain ⟨W0, hW0, f0, b0⟩ := one_row w (factC v t) 40
    rw [hW0]
    clear hW0
    have F0 := Lib.hid f0
    clear f0
    go_wp2_with (refine wpList_load_row rfl 40 _ rfl w.heap.size rfl _ _ _ _ F0.out Tryz.underlying40 rfl (hiC _ _) ?_)
    refine (HV.out _).mono ?_
    rintro e W1 ⟨rfl, b1⟩
    have F1 := Lib.hid (Hl.row b1 F0.out)
    go_wp2_with (refine wpList_load_row rfl 40 _ rfl w.heap.size rfl _ _ _ _ F1.out Tryz.underlying40 rfl (hiC _ _) ?_)
    refine (HE.out _).mono ?_
    rintro e W2 ⟨rfl, b2⟩
    go_wp2_with fail
    go_ret2
    exact ⟨rfl, (b0.trans (b1.mono b0.size)).trans (b2.mono (by have := b0.size; have := b1.size; omega))⟩
set_option maxRecDepth 100000 in
theorem refID_calls (v : Nat → Int) (t : ByteArray) (w : World) : Calls Tryz.prog 33 #[.agg (factC v t)] w fun e W' => e = .returned (.tuple #[.string ⟨(idF v t).toArray⟩, .int .i64 (errF v t)]) ∧ Below w.heap.size w W' := by
  have HC := Lib.hid (fun W => refEncode_calls v t W)
  have hsz := codeF_size v t
  have HM : Hid (∀ W, Calls Tryz.prog 51 #[.string ⟨(codeF v t).toArray⟩] W fun e W' => e = .returned (.string ⟨(shaF (codeF v t)).toArray⟩) ∧ Below W.heap.size W W') := Lib.hid (fun W => refSum_calls ⟨(codeF v t).toArray⟩ W (by show (codeF v t).length ≤ 1000000; omega))
  rcases hc : okT v t with _ | _
  · have e1 : idF v t = [] := by unfold idF; rw [hc]; rfl
    have e2 : errF v t = 50 := by unfold errF; rw [hc]; rfl
    rw [e1, e2]
    rw [e2] at HC
    clear hc e1 e2 HM hsz
    generalize codeF v t = S at *
    go_enter Tryz.func33, Tryz.ntmps33
    go_upto_region 1 with (fail)
    obtain ⟨W0, hW0, f0, b0⟩ := one_row w (factC v t) 40
    rw [hW0]
    clear hW0
    have F0 := Lib.hid f0
    clear f0
    go_wp2_with (refine wpList_load_fact rfl _ rfl w.heap.size rfl v t F0.out ?_)
    refine (HC.out _).mono ?_
    rintro e W1 ⟨rfl, b1⟩
    go_wp2_with fail
    go_ret2
    exact ⟨rfl, b0.trans (b1.mono b0.size)⟩
  · have e1 : idF v t = shaF (codeF v t) := by unfold idF codeF; rw [hc]; rfl
    have e2 : errF v t = 0 := by unfold errF; rw [hc]; rfl
    rw [e1, e2]
    rw [e2] at HC
    clear hc e1 e2 hsz
    generalize shaF (codeF v t) = D at *
    generalize codeF v t = S at *
    go_enter Tryz.func33, Tryz.ntmps33
    go_upto_region 1 with (fail)
    obtain ⟨W0, hW0, f0, b0⟩ := one_row w (factC v t) 40
    rw [hW0]
    clear hW0
    have F0 := Lib.hid f0
    clear f0
    go_wp2_with (refine wpList_load_fact rfl _ rfl w.heap.size rfl v t F0.out ?_)
    refine (HC.out _).mono ?_
    rintro e W1 ⟨rfl, b1⟩
    go_wp2_with fail
    refine (HM.out _).mono ?_
    rintro e W2 ⟨rfl, b2⟩
    go_wp2_with fail
    go_ret2
    exact ⟨rfl, (b0.trans (b1.mono b0.size)).trans (b2.mono (by have := b0.size; have := b1.size; omega))⟩

end Go.Proofs.YtnndnjnpkjpkpaaGreatDoor
