/- The walk of AmountExact: for all integers it returns true, and nothing that was there has changed. -/
import Derived.Test.YtediphiebamffaaHelp
namespace Go.Proofs.Ytediphiebamffaa
open Go.RowKit

theorem mul_bound (a b : Int) (h0 : 0 ≤ a) (h1 : a ≤ 2147483647) (h2 : 0 ≤ b) (h3 : b ≤ 2147483647) : 0 ≤ a * b ∧ a * b ≤ 4611686014132420609 := by
  have h4 : a * b ≤ 2147483647 * b := Int.mul_le_mul_of_nonneg_right h1 h2
  have h5 : 0 ≤ a * b := Int.mul_nonneg h0 h2
  generalize a * b = p at *
  omega
theorem mdV_same (d c : Int) (h0 : 0 ≤ d) (h1 : d ≤ 4611686018427387903) (h2 : 1 ≤ c) : mdV d c c = .tuple #[.int .i64 d, .bool true] := by
  have e : d * c / c = d := Int.mul_ediv_cancel _ (by omega)
  unfold mdV
  rw [e, if_pos ⟨h0, by omega, h2, h1⟩]
set_option maxRecDepth 100000 in
set_option maxHeartbeats 1000000 in
theorem ex_walk (a b c d : Int) (w : World) (ha : -9223372036854775808 ≤ a) (ha' : a ≤ 9223372036854775807) (hb : -9223372036854775808 ≤ b) (hb' : b ≤ 9223372036854775807) (hc : -9223372036854775808 ≤ c) (hc' : c ≤ 9223372036854775807) (hd : -9223372036854775808 ≤ d) (hd' : d ≤ 9223372036854775807) :
    Calls Try.prog 5 #[.int .i64 a, .int .i64 b, .int .i64 c, .int .i64 d] w fun e W' => e = .returned (.bool true) ∧ Below w.heap.size w W' := by
  have p1 := pickF_lt a 2147483648 (by omega)
  have p2 := pickF_lt b 2147483648 (by omega)
  have p3 := pickF_lt c 2147483648 (by omega)
  have p4 := pickF_lt d 4611686018427387903 (by omega)
  have H1 := Lib.hid (fun W => pick_calls a 2147483648 W ha ha' (by omega) (by omega))
  have H2 := Lib.hid (fun W => pick_calls b 2147483648 W hb hb' (by omega) (by omega))
  have H3 := Lib.hid (fun W => pick_calls c 2147483648 W hc hc' (by omega) (by omega))
  have H4 := Lib.hid (fun W => pick_calls d 4611686018427387903 W hd hd' (by omega) (by omega))
  clear ha ha' hb hb' hc hc' hd hd'
  generalize pickF a 2147483648 = x at *
  generalize pickF b 2147483648 = y at *
  generalize pickF c 2147483648 = z at *
  generalize pickF d 4611686018427387903 = u at *
  have hm := mul_bound x y p1.1 (by omega) p2.1 (by omega)
  have hq0 : 0 ≤ x * y / (1 + z) := Int.ediv_nonneg hm.1 (by omega)
  have hq1 : x * y / (1 + z) ≤ x * y := Int.ediv_le_self _ hm.1
  have M1 := Lib.hid (show mdV x y (1 + z) = .tuple #[.int .i64 (x * y / (1 + z)), .bool true] from by
    unfold mdV
    rw [if_pos ⟨p1.1, p2.1, by omega, by omega⟩])
  have M2 := Lib.hid (mdV_same (u + 1) (1 + z) (by omega) (by omega) (by omega))
  have M3 := Lib.hid (mdV_same (1 + z) (u + 1) (by omega) (by omega) (by omega))
  have k1 : 0 ≤ x * y := hm.1
  have k2 : x * y ≤ 4611686014132420609 := hm.2
  clear hm
  go_enter Try.func5, Try.ntmps5
  go_wp2_with fail
  refine (sane_calls _).mono ?_
  rintro e w1 ⟨rfl, b1⟩
  have a1 : Hld w w1 := Lib.hid b1
  clear b1
  go_wp2_with fail
  refine (H1.out _).mono ?_
  rintro e w2 ⟨rfl, rfl⟩
  go_wp2_with fail
  refine (H2.out _).mono ?_
  rintro e w2 ⟨rfl, rfl⟩
  go_wp2_with fail
  refine (H3.out _).mono ?_
  rintro e w2 ⟨rfl, rfl⟩
  go_wp2_with fail
  refine (H4.out _).mono ?_
  rintro e w2 ⟨rfl, rfl⟩
  go_wp2_with fail
  refine (mulDiv_calls x y (1 + z) _ (by omega) (by omega) (by omega)).mono ?_
  rintro e w2 ⟨rfl, b2⟩
  rw [M1.out]
  have a2 := a1.step b2
  clear b2 a1
  go_wp2_with fail
  refine (mulDiv_calls (u + 1) (1 + z) (1 + z) _ (by omega) (by omega) (by omega)).mono ?_
  rintro e w3 ⟨rfl, b3⟩
  rw [M2.out]
  have a3 := a2.step b3
  clear b3 a2
  go_wp2_with fail
  refine (mulDiv_calls (1 + z) (u + 1) (u + 1) _ (by omega) (by omega) (by omega)).mono ?_
  rintro e w4 ⟨rfl, b4⟩
  rw [M3.out]
  have a4 := a3.step b4
  clear b4 a3
  go_wp2_with fail
  go_ret
  exact ⟨rfl, Hid.out a4⟩
end Go.Proofs.Ytediphiebamffaa
