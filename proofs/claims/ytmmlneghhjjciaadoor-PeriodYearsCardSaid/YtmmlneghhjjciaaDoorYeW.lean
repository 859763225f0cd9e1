/- The walk of PeriodYears: for every number it returns true, and nothing that was there has changed. Condition: the table of lengths reads as the program lays it. -/
import Derived.Test.YtmmlneghhjjciaaDoorHelp
namespace Go.Proofs.YtmmlneghhjjciaaDoor
open Go.RowKit

set_option maxRecDepth 100000 in
set_option maxHeartbeats 1000000 in
theorem years_walk (a : Int) (w : World) (hK : Konst w) (a0 : -9223372036854775808 ≤ a) (a1 : a ≤ 9223372036854775807) :
    Calls Tryd.prog 7 #[.int .i64 a] w fun e w' => e = .returned (.bool true) ∧ Below w.heap.size w w' := by
  have HK := Lib.hid hK
  clear hK
  obtain ⟨k, hk, hk2⟩ := pick_nat a 1152 (by omega)
  have Hp := Lib.hid (fun W => pick_calls a 1152 W a0 a1 (by omega) (by omega))
  have hk' : pickF a 1152 = (k : Int) := hk
  rw [hk'] at Hp
  clear hk hk' a0 a1
  obtain ⟨X, hX⟩ : ∃ X : Int, ((86400 * upN k : Nat) : Int) = X := ⟨_, rfl⟩
  obtain ⟨Y, hY⟩ : ∃ Y : Int, ((86400 * upN (k + 12) : Nat) : Int) = Y := ⟨_, rfl⟩
  obtain ⟨Z, hZ⟩ : ∃ Z : Int, ((86400 * upN (k + 48) : Nat) : Int) = Z := ⟨_, rfl⟩
  have DX := Lib.hid (fun W h => Start_calls k (by omega) W h)
  have DY := Lib.hid (fun W h => Start_calls (k + 12) (by omega) W h)
  have DZ := Lib.hid (fun W h => Start_calls (k + 48) (by omega) W h)
  have Dd := Lib.hid (fun W h => Days_calls k (by omega) W h)
  have De := Lib.hid (fun W h => Days_calls (k + 48) (by omega) W h)
  rw [hX] at DX
  rw [hY, Int.natCast_add] at DY
  rw [hZ, Int.natCast_add] at DZ
  rw [daysN_add48, Int.natCast_add] at De
  have hd := daysN_bd k
  generalize daysN k = d at *
  have u1 := upN_add k 12
  have u2 := upN_add k 48
  rw [four] at u2
  have hs := year k
  have hb := upN_le (k + 48) (by omega)
  have e0 : 0 ≤ X := by omega
  have e1 : X ≤ Y := by omega
  have e2 : Y ≤ 3155760000 := by omega
  have e3 : Z - X = 126230400 := by omega
  have e4 : Z ≤ 3155760000 := by omega
  have e5 : (Y - X) / 86400 = 365 ∨ (Y - X) / 86400 = 366 := by omega
  clear u1 u2 hs hb hX hY hZ
  generalize hn : (Y - X) / 86400 = n at e5
  rcases e5 with rfl | rfl
  · go_enter Tryd.func7, Tryd.ntmps7
    go_wp2_with fail
    refine (sane_calls _ HK.out).mono ?_
    rintro e w1 ⟨rfl, b1⟩
    have B := Lib.hid b1
    have K1 := Lib.hid (HK.out.keep b1)
    clear b1
    go_wp2_with fail
    refine (Hp.out _).mono ?_
    rintro e w2 ⟨rfl, rfl⟩
    go_wp2_with fail
    refine (DY.out _ K1.out).mono ?_
    rintro e w2 ⟨rfl, rfl⟩
    go_wp2_with fail
    refine (DX.out _ K1.out).mono ?_
    rintro e w2 ⟨rfl, rfl⟩
    go_wp2_with fail
    refine (Dd.out _ K1.out).mono ?_
    rintro e w2 ⟨rfl, rfl⟩
    go_wp2_with fail
    refine (Dd.out _ K1.out).mono ?_
    rintro e w2 ⟨rfl, rfl⟩
    go_wp2_with fail
    refine (Dd.out _ K1.out).mono ?_
    rintro e w2 ⟨rfl, rfl⟩
    go_wp2_with fail
    refine (De.out _ K1.out).mono ?_
    rintro e w2 ⟨rfl, rfl⟩
    go_wp2_with fail
    refine (DZ.out _ K1.out).mono ?_
    rintro e w2 ⟨rfl, rfl⟩
    go_wp2_with fail
    refine (DX.out _ K1.out).mono ?_
    rintro e w2 ⟨rfl, rfl⟩
    go_wp2_with fail
    go_ret
    exact ⟨rfl, B.out⟩
  · go_enter Tryd.func7, Tryd.ntmps7
    go_wp2_with fail
    refine (sane_calls _ HK.out).mono ?_
    rintro e w1 ⟨rfl, b1⟩
    have B := Lib.hid b1
    have K1 := Lib.hid (HK.out.keep b1)
    clear b1
    go_wp2_with fail
    refine (Hp.out _).mono ?_
    rintro e w2 ⟨rfl, rfl⟩
    go_wp2_with fail
    refine (DY.out _ K1.out).mono ?_
    rintro e w2 ⟨rfl, rfl⟩
    go_wp2_with fail
    refine (DX.out _ K1.out).mono ?_
    rintro e w2 ⟨rfl, rfl⟩
    go_wp2_with fail
    refine (Dd.out _ K1.out).mono ?_
    rintro e w2 ⟨rfl, rfl⟩
    go_wp2_with fail
    refine (Dd.out _ K1.out).mono ?_
    rintro e w2 ⟨rfl, rfl⟩
    go_wp2_with fail
    refine (Dd.out _ K1.out).mono ?_
    rintro e w2 ⟨rfl, rfl⟩
    go_wp2_with fail
    refine (De.out _ K1.out).mono ?_
    rintro e w2 ⟨rfl, rfl⟩
    go_wp2_with fail
    refine (DZ.out _ K1.out).mono ?_
    rintro e w2 ⟨rfl, rfl⟩
    go_wp2_with fail
    refine (DX.out _ K1.out).mono ?_
    rintro e w2 ⟨rfl, rfl⟩
    go_wp2_with fail
    go_ret
    exact ⟨rfl, B.out⟩
end Go.Proofs.YtmmlneghhjjciaaDoor
