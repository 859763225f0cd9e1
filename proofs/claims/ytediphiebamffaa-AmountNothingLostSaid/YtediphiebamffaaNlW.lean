/- The walk of AmountNothingLost: for all totals and every list it returns true, and nothing that was there has changed. -/
import Derived.Test.YtediphiebamffaaFacts
import Derived.Test.YtediphiebamffaaApmW
namespace Go.Proofs.Ytediphiebamffaa
open Go.RowKit

set_option maxRecDepth 100000 in
set_option maxHeartbeats 8000000 in
theorem nl_walk (t : Int) (A : Option Addr) (l : List Int) (cap : Nat) (w : World) (ht : -9223372036854775808 ≤ t) (ht' : t ≤ 9223372036854775807) (ha : Arg w A l cap) :
    Calls Try.prog 7 #[.int .i64 t, .slice A l.length cap] w fun e W' => e = .returned (.bool true) ∧ Below w.heap.size w W' := by
  have HA := Lib.hid ha
  have p1 := pickF_lt t 1000000000000001 (by omega)
  have H1 := Lib.hid (fun W => pick_calls t 1000000000000001 W ht ht' (by omega) (by omega))
  clear ha ht ht'
  generalize pickF t 1000000000000001 = t1 at *
  obtain ⟨T, rfl⟩ := Int.eq_ofNat_of_zero_le p1.1
  have hT : T ≤ 1000000000000000 := by omega
  have HOK := Lib.hid (ok_wt (T : Int) l p1.1 (by omega))
  have HSW := Lib.hid (sumW_wt l)
  have HWL := Lib.hid (wt_nonneg l)
  have HLn : Hid ((wtL l).length ≤ 40) := Lib.hid (by rw [wtL_length]; omega)
  have H64 := Lib.hid (in64_wt l)
  clear p1
  go_enter Try.func7, Try.ntmps7
  go_wp2_with fail
  refine (sane_calls _).mono ?_
  rintro e w1 ⟨rfl, b1⟩
  have a1 : Hld w w1 := Lib.hid b1
  have HA1 := Lib.hid (HA.out.keep b1)
  clear b1 HA
  go_wp2_with fail
  refine (H1.out _).mono ?_
  rintro e w2 ⟨rfl, rfl⟩
  go_wp2_with fail
  refine (weights_calls l A cap _ HA1.out).mono ?_
  rintro e w2 ⟨⟨v, rfl, hv⟩, b2⟩
  have a2 := a1.step b2
  clear b2 a1 HA1
  generalize wtL l = M at *
  obtain ⟨A2, c2, rfl, hA2⟩ := hv.arg H64.out
  have HA2 := Lib.hid hA2
  have hcap := hA2.cap_
  clear hv hA2
  obtain ⟨n, hn⟩ : ∃ n, M.length = n := ⟨_, rfl⟩
  have Hn := Lib.hid hn
  have hn40 := HLn.out
  rw [hn] at hcap hn40 ⊢
  clear hn HLn
  go_wp2_with fail
  go_loop [7, 8] (fun sv iv => ∃ i s : Nat, i ≤ n ∧ iv = .int .i64 (i : Int) ∧ sv = .int .i64 (s : Int) ∧ s ≤ 400000000000000 ∧ Hid (s = sumTo (wN M) i)) (fun _ iv => n - (intOf iv).toNat)
  case atStart => exact ⟨0, 0, by omega, rfl, rfl, by omega, Lib.hid rfl⟩
  case round =>
    obtain ⟨i, s, hi, rfl, rfl, hs, HS⟩ := hrel
    by_cases hlt : i < n
    · obtain ⟨b, o, rfl, hI⟩ : ∃ b o, A2 = some ⟨b, o, none⟩ ∧ IntsAt w2 b o M := by
        rcases HA2.out.ints with h | h
        · have h0 := Hn.out
          rw [h, List.length_nil] at h0
          omega
        · exact h
      have c1 := hI i (by rw [Hn.out]; exact hlt)
      rw [wN_cast M i (by rw [Hn.out]; exact hlt) HWL.out] at c1
      have hle := sumTo_part_le (wN M) i M.length (by rw [Hn.out]; exact hlt)
      have hsw := HSW.out
      have HS2 : Hid (s + wN M i = sumTo (wN M) (i + 1)) := Lib.hid (by rw [HS.out]; rfl)
      have hb2 : s + wN M i ≤ 400000000000000 := by have := HS.out; unfold sumW at hsw; omega
      clear hI hle hsw HS
      generalize wN M i = x at *
      have k0 : (0 : Int) ≤ (i : Int) := by omega
      have k1 : (i : Int) < (n : Int) := by omega
      go_wp2_with fail
      go_round
      case rel => exact ⟨i + 1, s + x, by omega, by go_num, by go_num, hb2, HS2⟩
      case measure => simp [intOf]; omega
    · obtain rfl : i = n := by omega
      have HSe : Hid (s = sumW M) := Lib.hid (by rw [HS.out]; unfold sumW; rw [Hn.out])
      clear HS hlt hi
      have CA := ap_all (T : Int) M A2 c2 w2 HA2.out.ints (by rw [Hn.out]; omega)
      rw [Hn.out] at CA
      have HCA := Lib.hid CA
      clear CA
      by_cases hs0 : s = 0
      · have hno : ¬ apOk (T : Int) M := fun h => by have := HOK.out.1 h; have := HSe.out; omega
        have HNo := Lib.hid hno
        have k1 : ((s : Int) == 0) = true := by simp; omega
        clear hno hs0
        go_wp2_with fail
        refine HCA.out.mono ?_
        rintro e w3 (⟨h, _⟩ | ⟨_, rfl, b3⟩)
        · exact absurd h HNo.out
        have a3 := a2.step b3
        unfold apNo
        clear b3
        go_wp2_with fail
        go_ret
        exact ⟨rfl, Hid.out a3⟩
      · have hok : apOk (T : Int) M := HOK.out.2 (by have := HSe.out; omega)
        have HOk := Lib.hid hok
        have k1 : ((s : Int) == 0) = false := by simp; omega
        have hn1 := apOk_len hok
        rw [Hn.out] at hn1
        clear hok
        go_wp2_with fail
        refine HCA.out.mono ?_
        rintro e w3 (⟨_, ⟨g, cp, rfl, hcp, hI3⟩, b3⟩ | ⟨h, _⟩)
        case inr => exact absurd HOk.out h
        have a3 := a2.step b3
        have HA3 := Lib.hid (HA2.out.keep b3)
        have HI3 := Lib.hid hI3
        rw [Hn.out] at hcp ⊢
        clear b3 hI3 HCA HA2
        obtain ⟨b, o, rfl, hI⟩ : ∃ b o, A2 = some ⟨b, o, none⟩ ∧ IntsAt w3 b o M := by
          rcases HA3.out.ints with h | h
          · have h0 := Hn.out
            rw [h, List.length_nil] at h0
            omega
          · exact h
        have HIM := Lib.hid hI
        have HDv : Hid (∀ k W, k < i → Calls Try.prog 27 #[.int .i64 (T : Int), .int .i64 ((wN M k : Nat) : Int), .int .i64 (s : Int)] W fun e w' => e = .returned (.tuple #[.int .i64 ((qN T M k : Nat) : Int), .int .i64 ((rN T M k : Nat) : Int), .bool true]) ∧ W = w') := Lib.hid (fun k W hk => by
          have h2 := divide_calls T (wN M k) s W (by omega) (by have := wN_le M k (by rw [Hn.out]; exact hk); have := HSe.out; omega) (by omega) (by omega)
          have h3 := divAns_q T M k HOk.out (by rw [Hn.out]; exact hk)
          rw [Int.toNat_natCast] at h3
          rw [HSe.out, h3] at h2
          rw [HSe.out]
          exact h2)
        have HSum : Hid (sumTo (pN T M) i = T) := Lib.hid (by have := p_sum T M HOk.out; rwa [Int.toNat_natCast, Hn.out] at this)
        clear hI HA3
        go_wp2_with fail
        go_loop [11, 12] (fun av jv => ∃ j a : Nat, j ≤ i ∧ jv = .int .i64 (j : Int) ∧ av = .int .i64 (a : Int) ∧ a ≤ T ∧ Hid (a = sumTo (pN T M) j)) (fun _ jv => i - (intOf jv).toNat)
        case atStart => exact ⟨0, 0, by omega, rfl, rfl, by omega, Lib.hid rfl⟩
        case round =>
          obtain ⟨j, a, hj, rfl, rfl, haT, HSa⟩ := hrel
          by_cases hlt2 : j < i
          · have c1 := HIM.out j (by rw [Hn.out]; exact hlt2)
            rw [wN_cast M j (by rw [Hn.out]; exact hlt2) HWL.out] at c1
            have c2' := HI3.out j (by rw [apL_length, Hn.out]; exact hlt2)
            rw [apL_get T M j (by rw [Hn.out]; exact hlt2), Nat.zero_add] at c2'
            have hq := p_quota T M HOk.out j (by rw [Hn.out]; exact hlt2)
            have hz := p_zero T M HOk.out j (by rw [Hn.out]; exact hlt2)
            have hle := sumTo_part_le (pN T M) j i hlt2
            have HSa2 : Hid (a + pN T M j = sumTo (pN T M) (j + 1)) := Lib.hid (by rw [HSa.out]; rfl)
            have hb2 : a + pN T M j ≤ T := by have h1 := HSa.out; have h2 := HSum.out; omega
            have HDk := Lib.hid (fun W => HDv.out j W hlt2)
            clear hle HSa
            generalize wN M j = x at *
            generalize pN T M j = P at *
            generalize qN T M j = q at *
            generalize rN T M j = r at *
            have k0 : (0 : Int) ≤ (j : Int) := by omega
            have k1 : (j : Int) < (i : Int) := by omega
            have kx : (((x : Int) == 0) = true ∧ ((P : Int) != 0) = false) ∨ ((x : Int) == 0) = false := by
              by_cases h : x = 0
              · left; exact ⟨by simp; omega, by simp; omega⟩
              · right; simp; omega
            have kq : ((P : Int) != (q : Int)) = false ∨ (((P : Int) != (q : Int)) = true ∧ ((P : Int) != (q : Int) + 1) = false ∧ ((r : Int) == 0) = false) := by
              rcases hq with h | ⟨h, h2⟩
              · left; simp; omega
              · right; exact ⟨by simp; omega, by simp; omega, by simp; omega⟩
            have kb : (q : Int) + 1 ≤ 1000000000000001 := by omega
            clear hq hz
            rcases kx with ⟨kx1, kx2⟩ | kx1 <;> rcases kq with kq1 | ⟨kq1, kq2, kq3⟩
            all_goals
              go_wp2_with fail
              refine (HDk.out _).mono ?_
              rintro e w' ⟨rfl, rfl⟩
              go_wp2_with fail
              go_round
              case rel => exact ⟨j + 1, a + P, by omega, by go_num, by go_num, hb2, HSa2⟩
              case measure => simp [intOf]; omega
          · obtain rfl : j = i := by omega
            have HE : Hid (a = T) := Lib.hid (by rw [HSa.out]; exact HSum.out)
            have k1 : ((a : Int) == (T : Int)) = true := by have h := HE.out; rw [beq_iff_eq]; omega
            clear HE HSa hlt2
            go_wp2_with fail
            go_ret
            exact ⟨rfl, Hid.out a3⟩
end Go.Proofs.Ytediphiebamffaa
