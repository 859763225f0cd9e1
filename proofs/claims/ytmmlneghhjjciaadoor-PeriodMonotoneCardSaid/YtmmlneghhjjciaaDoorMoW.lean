/- The walk of PeriodMonotone: for every two numbers it returns true, and nothing that was there has changed. Condition: the table of lengths reads as the program lays it. -/
import Derived.Test.YtmmlneghhjjciaaDoorHelp
namespace Go.Proofs.YtmmlneghhjjciaaDoor
open Go.RowKit

set_option maxRecDepth 100000 in
set_option maxHeartbeats 1000000 in
theorem mono_walk (a b : Int) (w : World) (hK : Konst w) (a0 : -9223372036854775808 ≤ a) (a1 : a ≤ 9223372036854775807) (b0 : -9223372036854775808 ≤ b) (b1 : b ≤ 9223372036854775807) :
    Calls Tryd.prog 5 #[.int .i64 a, .int .i64 b] w fun e w' => e = .returned (.bool true) ∧ Below w.heap.size w w' := by
  have HK := Lib.hid hK
  clear hK
  have Hp := Lib.hid (fun W => pick_calls a 3155760000 W a0 a1 (by omega) (by omega))
  have Hq := Lib.hid (fun W => pick_calls b 3155760000 W b0 b1 (by omega) (by omega))
  have hx := pickF_lt a 3155760000 (by omega)
  have hy := pickF_lt b 3155760000 (by omega)
  generalize pickF a 3155760000 = x at *
  generalize pickF b 3155760000 = y at *
  have Dx := Lib.hid (fun W h => Of_calls x hx.1 hx.2 W h)
  have Dy := Lib.hid (fun W h => Of_calls y hy.1 hy.2 W h)
  have hm1 : x ≤ y → perN (x / 86400).toNat < perN (y / 86400).toNat ∨ (perN (x / 86400).toNat = perN (y / 86400).toNat ∧ dayN (x / 86400).toNat ≤ dayN (y / 86400).toNat) := fun h => perN_mono _ _ (by omega) (by omega)
  have hm2 : y ≤ x → perN (y / 86400).toNat < perN (x / 86400).toNat ∨ (perN (y / 86400).toNat = perN (x / 86400).toNat ∧ dayN (y / 86400).toNat ≤ dayN (x / 86400).toNat) := fun h => perN_mono _ _ (by omega) (by omega)
  generalize perN (x / 86400).toNat = P at *
  generalize dayN (x / 86400).toNat = E at *
  generalize perN (y / 86400).toNat = Q at *
  generalize dayN (y / 86400).toNat = F at *
  have Hm1 := Lib.hid hm1
  have Hm2 := Lib.hid hm2
  clear hm1 hm2
  go_enter Tryd.func5, Tryd.ntmps5
  go_wp2_with fail
  refine (sane_calls _ HK.out).mono ?_
  rintro e w1 ⟨rfl, c1⟩
  have B := Lib.hid c1
  have K1 := Lib.hid (HK.out.keep c1)
  clear c1
  go_wp2_with fail
  refine (Hp.out _).mono ?_
  rintro e w2 ⟨rfl, rfl⟩
  go_wp2_with fail
  refine (Hq.out _).mono ?_
  rintro e w2 ⟨rfl, rfl⟩
  go_wp2_with fail
  case' inl h =>
    refine (Dy.out _ K1.out).mono ?_
    have hm := Hm2.out (by omega)
  case' inr h =>
    refine (Dx.out _ K1.out).mono ?_
    have hm := Hm1.out (by omega)
  all_goals
    clear Hm1 Hm2
    rintro e w2 ⟨rfl, rfl⟩
    go_wp2_with fail
  · refine (Dy.out _ K1.out).mono ?_
    rintro e w2 ⟨rfl, rfl⟩
    rcases hm with h1 | ⟨h1, h2⟩
    · go_wp2_with fail
      go_ret
      exact ⟨rfl, B.out⟩
    · subst h1
      go_wp2_with fail
      go_ret
      exact ⟨rfl, B.out⟩
  · refine (Dx.out _ K1.out).mono ?_
    rintro e w2 ⟨rfl, rfl⟩
    rcases hm with h1 | ⟨h1, h2⟩
    · go_wp2_with fail
      go_ret
      exact ⟨rfl, B.out⟩
    · subst h1
      go_wp2_with fail
      go_ret
      exact ⟨rfl, B.out⟩
  · refine (Dx.out _ K1.out).mono ?_
    rintro e w2 ⟨rfl, rfl⟩
    rcases hm with h1 | ⟨h1, h2⟩
    · go_wp2_with fail
      go_ret
      exact ⟨rfl, B.out⟩
    · subst h1
      go_wp2_with fail
      go_ret
      exact ⟨rfl, B.out⟩
end Go.Proofs.YtmmlneghhjjciaaDoor
