/- The walk of AmountPercent: for all integers it returns true, and nothing that was there has changed. -/
import Derived.Test.YtediphiebamffaaHelp
namespace Go.Proofs.Ytediphiebamffaa
open Go.RowKit

theorem pcF_nat (t s : Nat) (h1 : t ≤ 1000000000000000) (h2 : s ≤ 1000000) : pcF (t : Int) (s : Int) = ((t * s / 1000000 : Nat) : Int) := by
  unfold pcF
  rw [if_pos ⟨⟨by omega, by omega⟩, by omega, by omega⟩, ← Int.natCast_mul]
  exact (Int.natCast_ediv _ _).symm
/-- The percentages of the law. -/
theorem pc_facts (t s t2 s2 : Int) (h0 : 0 ≤ t) (h1 : t ≤ 1000000000000000) (h2 : 0 ≤ s) (h3 : s ≤ 1000000) (h4 : 0 ≤ t2) (h5 : t2 ≤ t) (h6 : 0 ≤ s2) (h7 : s2 ≤ s) :
    (pcF t s + pcF t (1000000 - s) = t ∨ pcF t s + pcF t (1000000 - s) + 1 = t) ∧ pcF t2 s ≤ pcF t s ∧ pcF t s2 ≤ pcF t s ∧ pcF t 1000000 = t ∧ pcF t 0 = 0 ∧ 0 ≤ pcF t s ∧ 0 ≤ pcF t (1000000 - s) := by
  obtain ⟨T, rfl⟩ := Int.eq_ofNat_of_zero_le h0
  obtain ⟨S, rfl⟩ := Int.eq_ofNat_of_zero_le h2
  obtain ⟨T2, rfl⟩ := Int.eq_ofNat_of_zero_le h4
  obtain ⟨S2, rfl⟩ := Int.eq_ofNat_of_zero_le h6
  have e : (1000000 : Int) - (S : Int) = ((1000000 - S : Nat) : Int) := by omega
  have a1 := pcF_nat T S (by omega) (by omega)
  have a2 := pcF_nat T (1000000 - S) (by omega) (by omega)
  have a3 := pcF_nat T2 S (by omega) (by omega)
  have a4 := pcF_nat T S2 (by omega) (by omega)
  have a5 := pcF_nat T 1000000 (by omega) (by omega)
  have a6 := pcF_nat T 0 (by omega) (by omega)
  rw [e, a1, a2, a3, a4]
  have b1 := share_pair T S 1000000 (by omega) (by omega)
  have b2 := share_mono T2 T S S 1000000 (by omega) (by omega)
  have b3 := share_mono T T S2 S 1000000 (by omega) (by omega)
  refine ⟨by omega, by omega, by omega, ?_, ?_, by omega, by omega⟩
  · refine (show pcF (T : Int) 1000000 = ((T * 1000000 / 1000000 : Nat) : Int) from a5).trans ?_
    rw [Nat.mul_div_cancel _ (by omega)]
  · refine (show pcF (T : Int) 0 = ((T * 0 / 1000000 : Nat) : Int) from a6).trans ?_
    rw [Nat.mul_zero]; rfl
set_option maxRecDepth 100000 in
set_option maxHeartbeats 4000000 in
theorem pc_walk (t u s v : Int) (w : World) (ht : -9223372036854775808 ≤ t) (ht' : t ≤ 9223372036854775807) (hu : -9223372036854775808 ≤ u) (hu' : u ≤ 9223372036854775807) (hs : -9223372036854775808 ≤ s) (hs' : s ≤ 9223372036854775807) (hv : -9223372036854775808 ≤ v) (hv' : v ≤ 9223372036854775807) :
    Calls Try.prog 10 #[.int .i64 t, .int .i64 u, .int .i64 s, .int .i64 v] w fun e W' => e = .returned (.bool true) ∧ Below w.heap.size w W' := by
  have p1 := pickF_lt t 1000000000000001 (by omega)
  have p2 := pickF_lt s 1000001 (by omega)
  have H1 := Lib.hid (fun W => pick_calls t 1000000000000001 W ht ht' (by omega) (by omega))
  have H2 := Lib.hid (fun W => pick_calls s 1000001 W hs hs' (by omega) (by omega))
  clear ht ht' hs hs'
  generalize pickF t 1000000000000001 = x at *
  generalize pickF s 1000001 = y at *
  have p3 := pickF_lt u (x + 1) (by omega)
  have p4 := pickF_lt v (y + 1) (by omega)
  have H3 := Lib.hid (fun W => pick_calls u (x + 1) W hu hu' (by omega) (by omega))
  have H4 := Lib.hid (fun W => pick_calls v (y + 1) W hv hv' (by omega) (by omega))
  clear hu hu' hv hv'
  generalize pickF u (x + 1) = z at *
  generalize pickF v (y + 1) = r at *
  have hf := pc_facts x y z r p1.1 (by omega) p2.1 (by omega) p3.1 (by omega) p4.1 (by omega)
  have C1 := Lib.hid (fun W => own_percent x y W (by omega) (by omega))
  have C2 := Lib.hid (fun W => own_percent x (1000000 - y) W (by omega) (by omega))
  have C3 := Lib.hid (fun W => own_percent z y W (by omega) (by omega))
  have C4 := Lib.hid (fun W => own_percent x r W (by omega) (by omega))
  have C5 := Lib.hid (fun W => own_percent x 1000000 W (by omega) (by omega))
  have C6 := Lib.hid (fun W => own_percent x 0 W (by omega) (by omega))
  obtain ⟨f1, f2, f3, f4, f5, f6, f7⟩ := hf
  rw [f4] at C5
  rw [f5] at C6
  clear f4 f5
  generalize pcF x y = A at *
  generalize pcF x (1000000 - y) = B at *
  generalize pcF z y = C at *
  generalize pcF x r = D at *
  have f8 : (A + B == x) = true ∨ ((A + B == x) = false ∧ (A + B == x - 1) = true) := by
    rcases f1 with h | h
    · left; simpa using h
    · right; exact ⟨by simp; omega, by simp; omega⟩
  have f9 : A + B ≤ 9223372036854775807 := by omega
  rcases f8 with f8 | ⟨f8, f10⟩
  all_goals
    clear f1
    go_enter Try.func10, Try.ntmps10
    go_wp2_with fail
    refine (sane_calls _).mono ?_
    rintro e w1 ⟨rfl, b1⟩
    have a1 : Hld w w1 := Lib.hid b1
    clear b1
    go_wp2_with fail
    refine (H1.out _).mono ?_
    rintro e w2 ⟨rfl, rfl⟩
    go_wp2_with fail
    refine (H2.out _).mono ?_
    rintro e w2 ⟨rfl, rfl⟩
    go_wp2_with fail
    refine (C1.out _).mono ?_
    rintro e w2 ⟨rfl, b2⟩
    have a2 := a1.step b2
    clear b2 a1
    go_wp2_with fail
    refine (C2.out _).mono ?_
    rintro e w3 ⟨rfl, b3⟩
    have a3 := a2.step b3
    clear b3 a2
    go_wp2_with fail
    refine (H3.out _).mono ?_
    rintro e w4 ⟨rfl, rfl⟩
    go_wp2_with fail
    refine (C3.out _).mono ?_
    rintro e w4 ⟨rfl, b4⟩
    have a4 := a3.step b4
    clear b4 a3
    go_wp2_with fail
    refine (H4.out _).mono ?_
    rintro e w5 ⟨rfl, rfl⟩
    go_wp2_with fail
    refine (C4.out _).mono ?_
    rintro e w5 ⟨rfl, b5⟩
    have a5 := a4.step b5
    clear b5 a4
    go_wp2_with fail
    refine (C5.out _).mono ?_
    rintro e w6 ⟨rfl, b6⟩
    have a6 := a5.step b6
    clear b6 a5
    go_wp2_with fail
    refine (C6.out _).mono ?_
    rintro e w7 ⟨rfl, b7⟩
    have a7 := a6.step b7
    clear b7 a6
    go_wp2_with fail
    go_ret
    exact ⟨rfl, Hid.out a7⟩
end Go.Proofs.Ytediphiebamffaa
