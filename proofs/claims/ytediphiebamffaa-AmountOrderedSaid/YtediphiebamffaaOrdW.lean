/- The walk of AmountOrdered: for all integers it returns true, and nothing that was there has changed. -/
import Derived.Test.YtediphiebamffaaHelp
namespace Go.Proofs.Ytediphiebamffaa
open Go.RowKit

abbrev yes (q : Int) : Value := .tuple #[.int .i64 q, .bool true]
abbrev no0 : Value := .tuple #[.int .i64 0, .bool false]
theorem mdV_pos (a b c : Int) (h0 : 0 ≤ a) (h1 : 0 ≤ b) (h2 : 1 ≤ c) : mdV a b c = if a * b / c ≤ 4611686018427387903 then yes (a * b / c) else no0 := by
  unfold mdV
  by_cases h : a * b / c ≤ 4611686018427387903
  · rw [if_pos h, if_pos ⟨h0, h1, h2, h⟩]
  · rw [if_neg h, if_neg (fun h3 => h h3.2.2.2)]
theorem ord_cases (a b m c l : Int) (h0 : 0 ≤ a) (h1 : 0 ≤ b) (h2 : 0 ≤ m) (h3 : 1 ≤ c) (h4 : 0 ≤ l) (h5 : l < c) :
    (mdV a b c = no0 ∧ mdV b a c = no0 ∧ mdV (a + m) b c = no0 ∧ mdV a b (c - l) = no0) ∨
    ∃ q, (mdV a b c = yes q ∧ mdV b a c = yes q) ∧ (mdV (a + m) b c = no0 ∨ ∃ s, q ≤ s ∧ mdV (a + m) b c = yes s) ∧ (mdV a b (c - l) = no0 ∨ ∃ s, q ≤ s ∧ mdV a b (c - l) = yes s) := by
  rw [mdV_pos a b c h0 h1 h3, mdV_pos b a c h1 h0 h3, mdV_pos (a + m) b c (by omega) h1 h3, mdV_pos a b (c - l) h0 h1 (by omega), Int.mul_comm b a]
  have g1 : a * b / c ≤ (a + m) * b / c := Int.ediv_le_ediv (by omega) (Int.mul_le_mul_of_nonneg_right (by omega) h1)
  have g2 : a * b / c ≤ a * b / (c - l) := by
    obtain ⟨p, hp⟩ := Int.eq_ofNat_of_zero_le (Int.mul_nonneg h0 h1)
    obtain ⟨x, hx⟩ := Int.eq_ofNat_of_zero_le (show 0 ≤ c by omega)
    obtain ⟨y, hy⟩ := Int.eq_ofNat_of_zero_le (show 0 ≤ c - l by omega)
    rw [hp, hy, hx, ← Int.natCast_ediv, ← Int.natCast_ediv]
    have := Nat.div_le_div_left (a := p) (show y ≤ x by omega) (by omega)
    omega
  generalize a * b / c = q at *
  generalize (a + m) * b / c = s at *
  generalize a * b / (c - l) = t at *
  by_cases hq : q ≤ 4611686018427387903
  · right
    refine ⟨q, by rw [if_pos hq]; exact ⟨rfl, rfl⟩, ?_, ?_⟩
    · by_cases hs : s ≤ 4611686018427387903
      · right; exact ⟨s, g1, if_pos hs⟩
      · left; exact if_neg hs
    · by_cases ht : t ≤ 4611686018427387903
      · right; exact ⟨t, g2, if_pos ht⟩
      · left; exact if_neg ht
  · left
    rw [if_neg hq, if_neg (by omega), if_neg (by omega)]
    exact ⟨rfl, rfl, rfl, rfl⟩
set_option maxRecDepth 100000 in
set_option maxHeartbeats 4000000 in
theorem ord_walk (a b m c l : Int) (w : World) (ha : -9223372036854775808 ≤ a) (ha' : a ≤ 9223372036854775807) (hb : -9223372036854775808 ≤ b) (hb' : b ≤ 9223372036854775807) (hm : -9223372036854775808 ≤ m) (hm' : m ≤ 9223372036854775807) (hc : -9223372036854775808 ≤ c) (hc' : c ≤ 9223372036854775807) (hl : -9223372036854775808 ≤ l) (hl' : l ≤ 9223372036854775807) :
    Calls Try.prog 6 #[.int .i64 a, .int .i64 b, .int .i64 m, .int .i64 c, .int .i64 l] w fun e W' => e = .returned (.bool true) ∧ Below w.heap.size w W' := by
  have p1 := pickF_lt a 1000000000000001 (by omega)
  have p2 := pickF_lt b 1000000000000001 (by omega)
  have p3 := pickF_lt c 1000000000000000 (by omega)
  have p4 := pickF_lt m 1000000000000001 (by omega)
  have H1 := Lib.hid (fun W => pick_calls a 1000000000000001 W ha ha' (by omega) (by omega))
  have H2 := Lib.hid (fun W => pick_calls b 1000000000000001 W hb hb' (by omega) (by omega))
  have H3 := Lib.hid (fun W => pick_calls c 1000000000000000 W hc hc' (by omega) (by omega))
  have H4 := Lib.hid (fun W => pick_calls m 1000000000000001 W hm hm' (by omega) (by omega))
  clear ha ha' hb hb' hm hm' hc hc'
  generalize pickF a 1000000000000001 = x at *
  generalize pickF b 1000000000000001 = y at *
  generalize pickF c 1000000000000000 = z at *
  generalize pickF m 1000000000000001 = u at *
  have p5 := pickF_lt l (1 + z) (by omega)
  have H5 := Lib.hid (fun W => pick_calls l (1 + z) W hl hl' (by omega) (by omega))
  clear hl hl'
  generalize pickF l (1 + z) = v at *
  have hcs := ord_cases x y u (1 + z) v p1.1 p2.1 p4.1 (by omega) p5.1 p5.2
  rcases hcs with ⟨m1, m2, m3, m4⟩ | ⟨q, ⟨m1, m2⟩, m3 | ⟨s, ks, m3⟩, m4 | ⟨t, kt, m4⟩⟩
  all_goals
    have M1 := Lib.hid m1
    have M2 := Lib.hid m2
    have M3 := Lib.hid m3
    have M4 := Lib.hid m4
    clear m1 m2 m3 m4
    go_enter Try.func6, Try.ntmps6
    go_wp2_with fail
    refine (sane_calls _).mono ?_
    rintro e w1 ⟨rfl, b1⟩
    have a1 : Hld w w1 := Lib.hid b1
    clear b1
    go_wp2_with fail
    refine (H1.out _).mono ?_
    rintro e w2 ⟨rfl, rfl⟩
    go_wp2_with fail
    refine (H2.out _).mono ?_
    rintro e w2 ⟨rfl, rfl⟩
    go_wp2_with fail
    refine (H3.out _).mono ?_
    rintro e w2 ⟨rfl, rfl⟩
    go_wp2_with fail
    refine (H4.out _).mono ?_
    rintro e w2 ⟨rfl, rfl⟩
    go_wp2_with fail
    refine (H5.out _).mono ?_
    rintro e w2 ⟨rfl, rfl⟩
    go_wp2_with fail
    refine (mulDiv_calls x y (1 + z) _ (by omega) (by omega) (by omega)).mono ?_
    rintro e w2 ⟨rfl, b2⟩
    rw [M1.out]
    have a2 := a1.step b2
    clear b2 a1
    go_wp2_with fail
    refine (mulDiv_calls y x (1 + z) _ (by omega) (by omega) (by omega)).mono ?_
    rintro e w3 ⟨rfl, b3⟩
    rw [M2.out]
    have a3 := a2.step b3
    clear b3 a2
    go_wp2_with fail
    refine (mulDiv_calls (x + u) y (1 + z) _ (by omega) (by omega) (by omega)).mono ?_
    rintro e w4 ⟨rfl, b4⟩
    rw [M3.out]
    have a4 := a3.step b4
    clear b4 a3
    go_wp2_with fail
    refine (mulDiv_calls x y (1 + z - v) _ (by omega) (by omega) (by omega)).mono ?_
    rintro e w5 ⟨rfl, b5⟩
    rw [M4.out]
    have a5 := a4.step b5
    clear b5 a4
    go_wp2_with fail
    go_ret
    exact ⟨rfl, Hid.out a5⟩
end Go.Proofs.Ytediphiebamffaa
