/- The contract of the reference implementation's Divide: the exact quotient and the remainder, or nothing if the quotient is greater than MaxInt. -/
import Derived.Test.YtediphiebamffaaInts
import Derived.Deep.Cut
namespace Go.Proofs.Ytediphiebamffaa
open Go.RowKit

/-- What Divide answers. -/
def divAns (a b c : Nat) : Value := if a * b / c ≤ 4611686018427387903 then .tuple #[.int .i64 ((a * b / c : Nat) : Int), .int .i64 ((a * b % c : Nat) : Int), .bool true] else .tuple #[.int .i64 0, .int .i64 0, .bool false]

set_option maxRecDepth 100000 in
set_option maxHeartbeats 2000000 in
theorem divide_calls (a b c : Nat) (w : World) (ha : a ≤ 9223372036854775807) (hb : b ≤ 9223372036854775807) (h1 : 1 ≤ c) (hc : c ≤ 9223372036854775807) :
    Calls Try.prog 27 #[.int .i64 (a : Int), .int .i64 (b : Int), .int .i64 (c : Int)] w fun e w' => e = .returned (divAns a b c) ∧ w = w' := by
  have Hst := Lib.hid (divide_start a b c (by omega))
  have Hstep := Lib.hid (fun i => divide_step a b c i h1)
  go_enter Try.func27, Try.ntmps27
  go_wp2_with fail
  go_loop [10, 11, 12] (fun qv rv iv => ∃ (i q r : Nat) (v : Int), i ≤ 63 ∧ iv = .int .i64 v ∧ v = (i : Int) - 1 ∧ qv = .int .u64 q ∧ rv = .int .u64 r ∧ q ≤ 4611686018427387903 ∧ r < c ∧ Hid (q = (a / 2 ^ i) * b / c ∧ r = (a / 2 ^ i) * b % c)) (fun _ _ iv => (intOf iv + 1).toNat)
  case atStart => exact ⟨63, 0, 0, 62, by omega, rfl, by omega, rfl, rfl, by omega, by omega, Lib.hid ⟨Hst.out.1.symm, Hst.out.2.symm⟩⟩
  case round =>
    obtain ⟨i, q, r, v, hi, rfl, hv, rfl, rfl, hq, hr, HQ⟩ := hrel
    clear Hst
    by_cases hlt : 1 ≤ i
    · obtain ⟨j, rfl⟩ : ∃ j, i = j + 1 := ⟨i - 1, by omega⟩
      obtain rfl : v = (j : Int) := by omega
      have hs := Hstep.out j
      rw [← HQ.out.1, ← HQ.out.2] at hs
      have Hs := Lib.hid hs
      clear hs hv Hstep HQ
      have k1 : (0 : Int) ≤ (j : Int) := by omega
      have d1 : (0 : Int) ≤ (b : Int) / (c : Int) := Int.ediv_nonneg (by omega) (by omega)
      have d2 : (b : Int) / (c : Int) ≤ (b : Int) := Int.ediv_le_self _ (by omega)
      have d3 : (0 : Int) ≤ (b : Int) % (c : Int) := Int.emod_nonneg _ (by omega)
      have d4 : (b : Int) % (c : Int) < (c : Int) := Int.emod_lt_of_pos _ (by omega)
      have d5 : (((b / c : Nat)) : Int) = (b : Int) / (c : Int) := by simp
      have d6 : (((b % c : Nat)) : Int) = (b : Int) % (c : Int) := by simp
      have e1 : (j : Int) < 64 := by omega
      have e0 : IntKind.i64.wrap ((a : Int) / 2 ^ j) = (a : Int) / 2 ^ j := by
        have h0 : (0 : Int) ≤ (a : Int) / 2 ^ j := Int.ediv_nonneg (by omega) (Int.le_of_lt (Int.pow_pos (by decide)))
        have h9 : (a : Int) / 2 ^ j ≤ (a : Int) := Int.ediv_le_self _ (by omega)
        exact IntWalk.i64_in _ (by omega)
      have e4 : (0 : Int) ≤ (a : Int) / 2 ^ j := Int.ediv_nonneg (by omega) (Int.le_of_lt (Int.pow_pos (by decide)))
      have e5 : (((a / 2 ^ j % 2 : Nat)) : Int) = (a : Int) / 2 ^ j % 2 := by simp
      have HEarly := Lib.hid (divide_early a b c j 4611686018427387903)
      have hbl : a / 2 ^ j % 2 < 2 := Nat.mod_lt _ (by decide)
      by_cases h2r : c ≤ 2 * r
      · have g1 : (c : Int) ≤ 2 * (r : Int) := by omega
        go_upto_if 35 with (fail)
        by_cases hbit : a / 2 ^ j % 2 = 1
        · have g3 : ((a : Int) / 2 ^ j).tmod 2 = 1 := by rw [Int.tmod_eq_emod_of_nonneg e4, ← e5, hbit]; rfl
          go_upto_if 50 with (fail)
          by_cases hsub : c ≤ 2 * r - c + b % c
          · have g5 : (c : Int) ≤ 2 * (r : Int) - (c : Int) + (b : Int) % (c : Int) := by omega
            have hs := Hs.out
            unfold divBit at hs
            dsimp only at hs
            rw [if_pos h2r, if_pos h2r, if_pos hbit, if_pos hsub] at hs
            have hq2 : 2 * q + 1 + b / c + 1 = (a / 2 ^ j) * b / c := congrArg Prod.fst hs
            have hr2 : 2 * r - c + b % c - c = (a / 2 ^ j) * b % c := congrArg Prod.snd hs
            have HQ2 := Lib.hid (And.intro hq2 hr2)
            have hM := HEarly.out
            rw [← hq2] at hM
            have HM := Lib.hid hM
            have hrc : 2 * r - c + b % c - c < c := by rw [hr2]; exact Nat.mod_lt _ (by omega)
            have HRC := Lib.hid hrc
            clear hrc
            clear hs hq2 hr2 hM Hs e0 e4 e5 hbl
            by_cases hbig : 4611686018427387903 < 2 * q + 1 + b / c + 1
            · have g9 : (4611686018427387903 : Int) < 2 * (q : Int) + 1 + (b : Int) / (c : Int) + 1 := by omega
              have HA : Hid (divAns a b c = .tuple #[.int .i64 0, .int .i64 0, .bool false]) := Lib.hid (by unfold divAns; rw [if_neg (by have := HM.out hbig; omega)])
              clear HM HEarly hbig
              clear h2r hbit hsub
              go_wp2_with fail
              refine bodyPost_ret (results_tmp3 rfl _ _ _) rfl ?_
              exact ⟨by rw [HA.out]; rfl, rfl⟩
            · have HB : Hid (2 * q + 1 + b / c + 1 ≤ 4611686018427387903) := Lib.hid (by omega)
              have g9 : decide ((4611686018427387903 : Int) < 2 * (q : Int) + 1 + (b : Int) / (c : Int) + 1) = false := decide_eq_false (by omega)
              clear HM HEarly hbig
              clear h2r hbit hsub
              go_wp2_with fail
              go_round
              case rel => exact ⟨j, 2 * q + 1 + b / c + 1, 2 * r - c + b % c - c, (j : Int) - 1, by omega, by go_num, rfl, by go_num, by go_num, HB.out, HRC.out, HQ2⟩
              case measure => (simp [intOf] <;> omega)
          · have g5 : 2 * (r : Int) - (c : Int) + (b : Int) % (c : Int) < (c : Int) := by omega
            have hs := Hs.out
            unfold divBit at hs
            dsimp only at hs
            rw [if_pos h2r, if_pos h2r, if_pos hbit, if_neg hsub] at hs
            have hq2 : 2 * q + 1 + b / c = (a / 2 ^ j) * b / c := congrArg Prod.fst hs
            have hr2 : 2 * r - c + b % c = (a / 2 ^ j) * b % c := congrArg Prod.snd hs
            have HQ2 := Lib.hid (And.intro hq2 hr2)
            have hM := HEarly.out
            rw [← hq2] at hM
            have HM := Lib.hid hM
            have hrc : 2 * r - c + b % c < c := by rw [hr2]; exact Nat.mod_lt _ (by omega)
            have HRC := Lib.hid hrc
            clear hrc
            clear hs hq2 hr2 hM Hs e0 e4 e5 hbl
            by_cases hbig : 4611686018427387903 < 2 * q + 1 + b / c
            · have g9 : (4611686018427387903 : Int) < 2 * (q : Int) + 1 + (b : Int) / (c : Int) := by omega
              have HA : Hid (divAns a b c = .tuple #[.int .i64 0, .int .i64 0, .bool false]) := Lib.hid (by unfold divAns; rw [if_neg (by have := HM.out hbig; omega)])
              clear HM HEarly hbig
              clear h2r hbit hsub
              go_wp2_with fail
              refine bodyPost_ret (results_tmp3 rfl _ _ _) rfl ?_
              exact ⟨by rw [HA.out]; rfl, rfl⟩
            · have HB : Hid (2 * q + 1 + b / c ≤ 4611686018427387903) := Lib.hid (by omega)
              have g9 : decide ((4611686018427387903 : Int) < 2 * (q : Int) + 1 + (b : Int) / (c : Int)) = false := decide_eq_false (by omega)
              clear HM HEarly hbig
              clear h2r hbit hsub
              go_wp2_with fail
              go_round
              case rel => exact ⟨j, 2 * q + 1 + b / c, 2 * r - c + b % c, (j : Int) - 1, by omega, by go_num, rfl, by go_num, by go_num, HB.out, HRC.out, HQ2⟩
              case measure => (simp [intOf] <;> omega)
        · have g3 : ((a : Int) / 2 ^ j % 2 == 1) = false := by rw [← e5, show a / 2 ^ j % 2 = 0 by omega]; rfl
          have hs := Hs.out
          unfold divBit at hs
          dsimp only at hs
          rw [if_pos h2r, if_pos h2r, if_neg hbit] at hs
          have hq2 : 2 * q + 1 = (a / 2 ^ j) * b / c := congrArg Prod.fst hs
          have hr2 : 2 * r - c = (a / 2 ^ j) * b % c := congrArg Prod.snd hs
          have HQ2 := Lib.hid (And.intro hq2 hr2)
          have hM := HEarly.out
          rw [← hq2] at hM
          have HM := Lib.hid hM
          have hrc : 2 * r - c < c := by rw [hr2]; exact Nat.mod_lt _ (by omega)
          have HRC := Lib.hid hrc
          clear hrc
          clear hs hq2 hr2 hM Hs e0 e4 e5 hbl
          by_cases hbig : 4611686018427387903 < 2 * q + 1
          · have g9 : (4611686018427387903 : Int) < 2 * (q : Int) + 1 := by omega
            have HA : Hid (divAns a b c = .tuple #[.int .i64 0, .int .i64 0, .bool false]) := Lib.hid (by unfold divAns; rw [if_neg (by have := HM.out hbig; omega)])
            clear HM HEarly hbig
            clear h2r hbit
            go_wp2_with fail
            refine bodyPost_ret (results_tmp3 rfl _ _ _) rfl ?_
            exact ⟨by rw [HA.out]; rfl, rfl⟩
          · have HB : Hid (2 * q + 1 ≤ 4611686018427387903) := Lib.hid (by omega)
            have g9 : decide ((4611686018427387903 : Int) < 2 * (q : Int) + 1) = false := decide_eq_false (by omega)
            clear HM HEarly hbig
            clear h2r hbit
            go_wp2_with fail
            go_round
            case rel => exact ⟨j, 2 * q + 1, 2 * r - c, (j : Int) - 1, by omega, by go_num, rfl, by go_num, by go_num, HB.out, HRC.out, HQ2⟩
            case measure => (simp [intOf] <;> omega)
      · have g1 : 2 * (r : Int) < (c : Int) := by omega
        go_upto_if 35 with (fail)
        by_cases hbit : a / 2 ^ j % 2 = 1
        · have g3 : ((a : Int) / 2 ^ j).tmod 2 = 1 := by rw [Int.tmod_eq_emod_of_nonneg e4, ← e5, hbit]; rfl
          go_upto_if 50 with (fail)
          by_cases hsub : c ≤ 2 * r + b % c
          · have g5 : (c : Int) ≤ 2 * (r : Int) + (b : Int) % (c : Int) := by omega
            have hs := Hs.out
            unfold divBit at hs
            dsimp only at hs
            rw [if_neg h2r, if_neg h2r, if_pos hbit, if_pos hsub] at hs
            have hq2 : 2 * q + b / c + 1 = (a / 2 ^ j) * b / c := congrArg Prod.fst hs
            have hr2 : 2 * r + b % c - c = (a / 2 ^ j) * b % c := congrArg Prod.snd hs
            have HQ2 := Lib.hid (And.intro hq2 hr2)
            have hM := HEarly.out
            rw [← hq2] at hM
            have HM := Lib.hid hM
            have hrc : 2 * r + b % c - c < c := by rw [hr2]; exact Nat.mod_lt _ (by omega)
            have HRC := Lib.hid hrc
            clear hrc
            clear hs hq2 hr2 hM Hs e0 e4 e5 hbl
            by_cases hbig : 4611686018427387903 < 2 * q + b / c + 1
            · have g9 : (4611686018427387903 : Int) < 2 * (q : Int) + (b : Int) / (c : Int) + 1 := by omega
              have HA : Hid (divAns a b c = .tuple #[.int .i64 0, .int .i64 0, .bool false]) := Lib.hid (by unfold divAns; rw [if_neg (by have := HM.out hbig; omega)])
              clear HM HEarly hbig
              clear h2r hbit hsub
              go_wp2_with fail
              refine bodyPost_ret (results_tmp3 rfl _ _ _) rfl ?_
              exact ⟨by rw [HA.out]; rfl, rfl⟩
            · have HB : Hid (2 * q + b / c + 1 ≤ 4611686018427387903) := Lib.hid (by omega)
              have g9 : decide ((4611686018427387903 : Int) < 2 * (q : Int) + (b : Int) / (c : Int) + 1) = false := decide_eq_false (by omega)
              clear HM HEarly hbig
              clear h2r hbit hsub
              go_wp2_with fail
              go_round
              case rel => exact ⟨j, 2 * q + b / c + 1, 2 * r + b % c - c, (j : Int) - 1, by omega, by go_num, rfl, by go_num, by go_num, HB.out, HRC.out, HQ2⟩
              case measure => (simp [intOf] <;> omega)
          · have g5 : 2 * (r : Int) + (b : Int) % (c : Int) < (c : Int) := by omega
            have hs := Hs.out
            unfold divBit at hs
            dsimp only at hs
            rw [if_neg h2r, if_neg h2r, if_pos hbit, if_neg hsub] at hs
            have hq2 : 2 * q + b / c = (a / 2 ^ j) * b / c := congrArg Prod.fst hs
            have hr2 : 2 * r + b % c = (a / 2 ^ j) * b % c := congrArg Prod.snd hs
            have HQ2 := Lib.hid (And.intro hq2 hr2)
            have hM := HEarly.out
            rw [← hq2] at hM
            have HM := Lib.hid hM
            have hrc : 2 * r + b % c < c := by rw [hr2]; exact Nat.mod_lt _ (by omega)
            have HRC := Lib.hid hrc
            clear hrc
            clear hs hq2 hr2 hM Hs e0 e4 e5 hbl
            by_cases hbig : 4611686018427387903 < 2 * q + b / c
            · have g9 : (4611686018427387903 : Int) < 2 * (q : Int) + (b : Int) / (c : Int) := by omega
              have HA : Hid (divAns a b c = .tuple #[.int .i64 0, .int .i64 0, .bool false]) := Lib.hid (by unfold divAns; rw [if_neg (by have := HM.out hbig; omega)])
              clear HM HEarly hbig
              clear h2r hbit hsub
              go_wp2_with fail
              refine bodyPost_ret (results_tmp3 rfl _ _ _) rfl ?_
              exact ⟨by rw [HA.out]; rfl, rfl⟩
            · have HB : Hid (2 * q + b / c ≤ 4611686018427387903) := Lib.hid (by omega)
              have g9 : decide ((4611686018427387903 : Int) < 2 * (q : Int) + (b : Int) / (c : Int)) = false := decide_eq_false (by omega)
              clear HM HEarly hbig
              clear h2r hbit hsub
              go_wp2_with fail
              go_round
              case rel => exact ⟨j, 2 * q + b / c, 2 * r + b % c, (j : Int) - 1, by omega, by go_num, rfl, by go_num, by go_num, HB.out, HRC.out, HQ2⟩
              case measure => (simp [intOf] <;> omega)
        · have g3 : ((a : Int) / 2 ^ j % 2 == 1) = false := by rw [← e5, show a / 2 ^ j % 2 = 0 by omega]; rfl
          have hs := Hs.out
          unfold divBit at hs
          dsimp only at hs
          rw [if_neg h2r, if_neg h2r, if_neg hbit] at hs
          have hq2 : 2 * q = (a / 2 ^ j) * b / c := congrArg Prod.fst hs
          have hr2 : 2 * r = (a / 2 ^ j) * b % c := congrArg Prod.snd hs
          have HQ2 := Lib.hid (And.intro hq2 hr2)
          have hM := HEarly.out
          rw [← hq2] at hM
          have HM := Lib.hid hM
          have hrc : 2 * r < c := by rw [hr2]; exact Nat.mod_lt _ (by omega)
          have HRC := Lib.hid hrc
          clear hrc
          clear hs hq2 hr2 hM Hs e0 e4 e5 hbl
          by_cases hbig : 4611686018427387903 < 2 * q
          · have g9 : (4611686018427387903 : Int) < 2 * (q : Int) := by omega
            have HA : Hid (divAns a b c = .tuple #[.int .i64 0, .int .i64 0, .bool false]) := Lib.hid (by unfold divAns; rw [if_neg (by have := HM.out hbig; omega)])
            clear HM HEarly hbig
            clear h2r hbit
            go_wp2_with fail
            refine bodyPost_ret (results_tmp3 rfl _ _ _) rfl ?_
            exact ⟨by rw [HA.out]; rfl, rfl⟩
          · have HB : Hid (2 * q ≤ 4611686018427387903) := Lib.hid (by omega)
            have g9 : decide ((4611686018427387903 : Int) < 2 * (q : Int)) = false := decide_eq_false (by omega)
            clear HM HEarly hbig
            clear h2r hbit
            go_wp2_with fail
            go_round
            case rel => exact ⟨j, 2 * q, 2 * r, (j : Int) - 1, by omega, by go_num, rfl, by go_num, by go_num, HB.out, HRC.out, HQ2⟩
            case measure => (simp [intOf] <;> omega)
    · obtain rfl : i = 0 := by omega
      have hz := HQ.out
      rw [Nat.pow_zero, Nat.div_one] at hz
      obtain rfl : v = -1 := by omega
      have HA : Hid (divAns a b c = .tuple #[.int .i64 (q : Int), .int .i64 (r : Int), .bool true]) := Lib.hid (by unfold divAns; rw [← hz.1, ← hz.2, if_pos hq])
      clear hz HQ Hstep hv
      go_wp2_with fail
      refine bodyPost_ret (results_tmp3 rfl _ _ _) rfl ?_
      exact ⟨by rw [HA.out]; rfl, rfl⟩
end Go.Proofs.Ytediphiebamffaa
