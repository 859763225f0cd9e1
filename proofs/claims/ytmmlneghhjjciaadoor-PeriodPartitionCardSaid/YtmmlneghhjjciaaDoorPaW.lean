/- The walk of PeriodPartition: for every number it returns true, and nothing that was there has changed. Condition: the table of lengths reads as the program lays it. -/
import Derived.Test.YtmmlneghhjjciaaDoorHelp
namespace Go.Proofs.YtmmlneghhjjciaaDoor
open Go.RowKit

set_option maxRecDepth 100000 in
set_option maxHeartbeats 1000000 in
theorem part_walk (a : Int) (w : World) (hK : Konst w) (a0 : -9223372036854775808 ≤ a) (a1 : a ≤ 9223372036854775807) :
    Calls Tryd.prog 4 #[.int .i64 a] w fun e w' => e = .returned (.bool true) ∧ Below w.heap.size w w' := by
  have HK := Lib.hid hK
  clear hK
  have Hp := Lib.hid (fun W => pick_calls a 3155760000 W a0 a1 (by omega) (by omega))
  have hx := pickF_lt a 3155760000 (by omega)
  generalize pickF a 3155760000 = x at *
  have DO := Lib.hid (fun W h => Of_calls x hx.1 hx.2 W h)
  have hs := perN_spec (x / 86400).toNat (by omega)
  have hP := perN_lt (x / 86400).toNat (by omega)
  generalize perN (x / 86400).toNat = P at *
  generalize dayN (x / 86400).toNat = E at *
  obtain ⟨X, hX⟩ : ∃ X : Int, ((86400 * upN P : Nat) : Int) = X := ⟨_, rfl⟩
  obtain ⟨Y, hY⟩ : ∃ Y : Int, ((86400 * upN (P + 1) : Nat) : Int) = Y := ⟨_, rfl⟩
  have DX := Lib.hid (fun W h => Start_calls P (by omega) W h)
  have DY := Lib.hid (fun W h => Start_calls (P + 1) (by omega) W h)
  have Dd := Lib.hid (fun W h => Days_calls P hP W h)
  rw [hX] at DX
  rw [hY, Int.natCast_add] at DY
  have u1 : upN (P + 1) = upN P + daysN P := rfl
  have hd := daysN_bd P
  have hb := upN_le (P + 1) (by omega)
  generalize daysN P = d at *
  have e0 : 0 ≤ X := by omega
  have e1 : X ≤ x := by omega
  have e2 : x < Y := by omega
  have e3 : Y - X = 86400 * (d : Int) := by omega
  have e4 : Y ≤ 3155760000 := by omega
  have e5 : (x - X) / 86400 = (E : Int) := by omega
  have e6 : E < 31 := by omega
  clear u1 hb hX hY hs
  go_enter Tryd.func4, Tryd.ntmps4
  go_wp2_with fail
  refine (sane_calls _ HK.out).mono ?_
  rintro e w1 ⟨rfl, b1⟩
  have B := Lib.hid b1
  have K1 := Lib.hid (HK.out.keep b1)
  clear b1
  go_wp2_with fail
  refine (Hp.out _).mono ?_
  rintro e w2 ⟨rfl, rfl⟩
  go_wp2_with fail
  refine (DO.out _ K1.out).mono ?_
  rintro e w2 ⟨rfl, rfl⟩
  go_wp2_with fail
  refine (DX.out _ K1.out).mono ?_
  rintro e w2 ⟨rfl, rfl⟩
  go_wp2_with fail
  refine (DY.out _ K1.out).mono ?_
  rintro e w2 ⟨rfl, rfl⟩
  go_wp2_with fail
  refine (Dd.out _ K1.out).mono ?_
  rintro e w2 ⟨rfl, rfl⟩
  go_wp2_with fail
  go_ret
  exact ⟨rfl, B.out⟩
end Go.Proofs.YtmmlneghhjjciaaDoor
