/- The walk of AmountCents: for all integers and every list it returns true, and nothing that was there has changed. -/
import Derived.Test.YtediphiebamffaaHelp
namespace Go.Proofs.Ytediphiebamffaa
open Go.RowKit

/-- The three sums. -/
theorem sum_cases (L : List Int) (k : Nat) : (∃ s s1 s2 : Nat, s1 + s2 = s ∧ s ≤ 4611686018427387903 ∧ smV L = .tuple #[.int .i64 (s : Int), .bool true] ∧ smV (L.take k) = .tuple #[.int .i64 (s1 : Int), .bool true] ∧ smV (L.drop k) = .tuple #[.int .i64 (s2 : Int), .bool true]) ∨
    (smV L = .tuple #[.int .i64 0, .bool false] ∧ ((smV (L.take k) = .tuple #[.int .i64 0, .bool false] ∧ ∃ (q : Int) (b : Bool), smV (L.drop k) = .tuple #[.int .i64 q, .bool b]) ∨
      (∃ s1 : Nat, smV (L.take k) = .tuple #[.int .i64 (s1 : Int), .bool true] ∧ smV (L.drop k) = .tuple #[.int .i64 0, .bool false]) ∨
      ∃ s1 s2 : Nat, s1 ≤ 4611686018427387903 ∧ s2 ≤ 4611686018427387903 ∧ 4611686018427387903 < s1 + s2 ∧ smV (L.take k) = .tuple #[.int .i64 (s1 : Int), .bool true] ∧ smV (L.drop k) = .tuple #[.int .i64 (s2 : Int), .bool true])) := by
  have hp := sumF_parts maxI (L.take k) (L.drop k)
  rw [List.take_append_drop] at hp
  have hno : ∀ l, sumF maxI l 0 = none → smV l = .tuple #[.int .i64 0, .bool false] := fun l h => by unfold smV; rw [h]; rfl
  cases h1 : sumF maxI (L.take k) 0 with
  | none =>
    rw [h1] at hp
    exact Or.inr ⟨hno _ hp, Or.inl ⟨hno _ h1, _, _, rfl⟩⟩
  | some s1 =>
    rw [h1] at hp
    have g1 := (sumF_ge maxI _ _ _ h1).2 (Nat.zero_le _)
    cases h2 : sumF maxI (L.drop k) 0 with
    | none =>
      rw [h2] at hp
      exact Or.inr ⟨hno _ hp, Or.inr (Or.inl ⟨s1, smV_some _ _ h1, hno _ h2⟩)⟩
    | some s2 =>
      rw [h2] at hp
      have g2 := (sumF_ge maxI _ _ _ h2).2 (Nat.zero_le _)
      have hp2 : sumF maxI L 0 = if s1 + s2 ≤ maxI then some (s1 + s2) else none := hp
      by_cases h3 : s1 + s2 ≤ maxI
      · rw [if_pos h3] at hp2
        exact Or.inl ⟨s1 + s2, s1, s2, rfl, h3, smV_some _ _ hp2, smV_some _ _ h1, smV_some _ _ h2⟩
      · rw [if_neg h3] at hp2
        exact Or.inr ⟨hno _ hp2, Or.inr (Or.inr ⟨s1, s2, g1, g2, by unfold maxI at h3; omega, smV_some _ _ h1, smV_some _ _ h2⟩)⟩
/-- What Cents answers, as facts. -/
theorem cents_facts (n : Int) (h1 : -9223372036854775808 ≤ n) (h2 : n ≤ 9223372036854775807) : ∃ x y : Int, (∀ W, Calls Try.prog 23 #[.int .i64 n] W fun e w' => e = .returned (.tuple #[.int .i64 x, .int .i64 y]) ∧ W = w') ∧ x + y = n ∧ 0 ≤ x ∧ x % 10000 = 0 ∧ ((0 ≤ n ∧ 0 ≤ y ∧ y < 10000) ∨ (n < 0 ∧ x = 0)) := by
  refine ⟨_, _, fun W => own_cents n W h1 h2, ?_⟩
  by_cases h : n < 0
  · rw [if_pos h, if_pos h]; exact ⟨by omega, by omega, by omega, Or.inr ⟨h, rfl⟩⟩
  · rw [if_neg h, if_neg h]; exact ⟨by omega, by omega, by omega, Or.inl ⟨by omega, by omega, by omega⟩⟩
theorem Ints.drop_at {w : World} {g : Nat} {L : List Int} (h : Ints w (some ⟨g, 0, none⟩) L) (k : Nat) : Ints w (some ⟨g, k, none⟩) (L.drop k) := by
  rcases h with rfl | ⟨b, o, e, hs⟩
  · left; simp
  · have e2 := Option.some.inj e
    injection e2 with h1 h2 h3
    subst h1 h2
    have := (IntsAt.drop hs k).ints
    rw [Nat.zero_add] at this
    exact this
theorem ints_end {w : World} {A : Option Addr} {L : List Int} {k : Nat} (h : L.length ≤ k) : Ints w A (L.drop k) := Or.inl (List.drop_of_length_le h)
set_option maxRecDepth 100000 in
set_option maxHeartbeats 8000000 in
theorem ce_walk (n : Int) (A : Option Addr) (l : List Int) (cap : Nat) (at' : Int) (w : World) (hn : -9223372036854775808 ≤ n) (hn' : n ≤ 9223372036854775807) (ha : Arg w A l cap) (hk : -9223372036854775808 ≤ at') (hk' : at' ≤ 9223372036854775807) :
    Calls Try.prog 11 #[.int .i64 n, .slice A l.length cap, .int .i64 at'] w fun e W' => e = .returned (.bool true) ∧ Below w.heap.size w W' := by
  obtain ⟨x, y, hC, f1, f2, f3, f4⟩ := cents_facts n hn hn'
  have C0 := Lib.hid hC
  have HA := Lib.hid ha
  have g1 : (x + y != n) = false := by simpa using f1
  have g2 : (x % 10000 != 0) = false := by simpa using f3
  clear hC ha f3
  have g3 : x + y ≤ 9223372036854775807 := by omega
  have g4 : -9223372036854775808 ≤ x + y := by omega
  have HS := Lib.hid (fun (W : World) (A' : Option Addr) (c' : Nat) (m : List Int) (r : Nat) (hm : m.length = r) (hi : Ints W A' m) (h4 : r ≤ 40) => (show Calls Try.prog 25 #[.slice A' r c'] W fun e w' => e = .returned (smV m) ∧ Below W.heap.size W w' from by
    subst hm; exact own_sum m A' c' W hi (by omega)))
  rcases f4 with ⟨f4, f5, f6⟩ | ⟨f4, rfl⟩
  case' inl =>
    have g6 : decide (10000 ≤ y) = false := decide_eq_false (by omega)
    have g7 : ¬ y < 0 := by omega
    have g8 : ¬ n < 0 := by omega
  case' inr =>
    have g9 : (y != n) = false := by simpa using g1
  all_goals
    clear f1
    go_enter Try.func11, Try.ntmps11
    go_wp2_with fail
    refine (sane_calls _).mono ?_
    rintro e w1 ⟨rfl, b1⟩
    have a1 : Hld w w1 := Lib.hid b1
    have HA1 := Lib.hid (HA.out.keep b1)
    clear b1 HA
    go_wp2_with fail
    refine (C0.out _).mono ?_
    rintro e w2 ⟨rfl, rfl⟩
    go_wp2_with fail
    refine (cut_calls l A cap _ HA1.out).mono ?_
    rintro e w3 ⟨⟨v, rfl, hv⟩, b3⟩
    have a3 := a1.step b3
    clear b3 a1 HA1
    have hL40 : (l.take 40).length ≤ 40 := by rw [List.length_take]; omega
    generalize l.take 40 = L at *
    obtain ⟨A3, c3, rfl, hc3, t3, hl3⟩ := hv.slice
    clear hv
    obtain ⟨r, hr⟩ : ∃ r, L.length = r := ⟨_, rfl⟩
    have Hr := Lib.hid hr
    rw [hr] at hc3 hL40 hl3 ⊢
    clear hr
    have pk := pickF_lt at' ((r : Int) + 1) (by omega)
    have CP := Lib.hid (fun W => pick_calls at' ((r : Int) + 1) W hk hk' (by omega) (by omega))
    generalize pickF at' ((r : Int) + 1) = kk at *
    obtain ⟨k, rfl⟩ := Int.eq_ofNat_of_zero_le pk.1
    have kr : k ≤ r := by omega
    have HT1 : Hid ((L.take k).length = k) := Lib.hid (by rw [List.length_take, Hr.out]; omega)
    have HT2 : Hid ((L.drop k).length = r - k) := Lib.hid (by rw [List.length_drop, Hr.out])
    have hsc := Lib.hid (sum_cases L k)
    rcases hl3 with ⟨rfl, rfl, rfl⟩ | ⟨g, rfl⟩
    case' inl =>
      obtain rfl : k = 0 := by omega
    case' inr =>
      have k0 : (0 : Int) ≤ (k : Int) := by omega
      have k1 : (k : Int) ≤ (r : Int) := by omega
      have k2 : (k : Int) ≤ (c3 : Int) := by omega
      have k3 : (r : Int) ≤ (c3 : Int) := by omega
      have hnn : k < c3 ∨ (c3 = k ∧ r = k) := by omega
      rcases hnn with hck | ⟨rfl, rfl⟩
      case' inl =>
        have hc0 : ¬ c3 = k := by omega
  all_goals
    go_wp2_with fail
    refine (CP.out _).mono ?_
    rintro e w4 ⟨rfl, rfl⟩
    clear CP
    go_wp2_with fail
    refine (HS.out _ _ _ L _ Hr.out (Hid.out t3) (by omega)).mono ?_
    rintro e w4 ⟨rfl, b4⟩
    have a4 := a3.step b4
    have t4 := t3.keep b4
    clear b4 a3 t3
    rcases hsc.out with ⟨s, s1, s2, j1, j2, m0, m1, m2⟩ | ⟨m0, ⟨m1, q, bb, m2⟩ | ⟨s1, m1, m2⟩ | ⟨s1, s2, j1, j2, j3, m1, m2⟩⟩
    all_goals
      have M0 := Lib.hid m0
      have M1 := Lib.hid m1
      have M2 := Lib.hid m2
      clear m0 m1 m2 hsc
      rw [M0.out]
      go_wp2_with fail
      refine (HS.out _ _ _ (L.take _) _ HT1.out ((Hid.out t4).take _) (by omega)).mono ?_
      rintro e w5 ⟨rfl, b5⟩
      have a5 := a4.step b5
      have t5 := t4.keep b5
      clear b5 a4 t4
      rw [M1.out]
      go_wp2_with fail
      refine (HS.out _ _ _ (L.drop _) _ (by first | exact HT2.out | (rw [HT2.out]; omega)) (by first | exact (Hid.out t5).drop_at _ | exact ints_end (by rw [Hr.out]; omega)) (by omega)).mono ?_
      rintro e w6 ⟨rfl, b6⟩
      have a6 := a5.step b6
      clear b6 a5 t5
      rw [M2.out]
      go_wp2_with fail
      go_ret
      first
        | exact ⟨rfl, Hid.out a6⟩
        | exact ⟨congrArg (fun b => Ending.returned (.bool b)) (decide_eq_true (p := (4611686018427387903 : Int) - (s2 : Int) < (s1 : Int)) (by omega)), Hid.out a6⟩
        | exact ⟨congrArg (fun b => Ending.returned (.bool b)) (beq_iff_eq.2 (show (s1 : Int) + (s2 : Int) = (s : Int) from by omega)), Hid.out a6⟩
end Go.Proofs.Ytediphiebamffaa
