/- The walk of AmountFair: for all totals and every list it returns true, and nothing that was there has changed. -/
import Derived.Test.YtediphiebamffaaFacts
import Derived.Test.YtediphiebamffaaApmW
namespace Go.Proofs.Ytediphiebamffaa
open Go.RowKit

/-- What the loops hold: the weights and the parts read as laid, and nothing that was there has changed. -/
structure FairR (w0 w : World) (b o g n : Nat) (x P : Nat → Nat) : Prop where
  rowX : ∀ i, i < n → w.cell? ⟨b, o + i, none⟩ = some (.int .i64 ((x i : Nat) : Int))
  rowP : ∀ i, i < n → w.cell? ⟨g, i, none⟩ = some (.int .i64 ((P i : Nat) : Int))
  bel : Below w0.heap.size w0 w
theorem FairR.drewN {w0 w : World} {b o g n : Nat} {x P : Nat → Nat} (h : FairR w0 w b o g n x P) (q : Nat) : FairR w0 (w.drewN q) b o g n x P := ⟨h.rowX, h.rowP, below_drewN h.bel q⟩
set_option maxRecDepth 100000 in
set_option maxHeartbeats 8000000 in
theorem fa_walk (t : Int) (A : Option Addr) (l : List Int) (cap : Nat) (w : World) (ht : -9223372036854775808 ≤ t) (ht' : t ≤ 9223372036854775807) (ha : Arg w A l cap) :
    Calls Try.prog 8 #[.int .i64 t, .slice A l.length cap] w fun e W' => e = .returned (.bool true) ∧ Below w.heap.size w W' := by
  have HA := Lib.hid ha
  have p1 := pickF_lt t 1000000000000001 (by omega)
  have H1 := Lib.hid (fun W => pick_calls t 1000000000000001 W ht ht' (by omega) (by omega))
  clear ha ht ht'
  generalize pickF t 1000000000000001 = t1 at *
  obtain ⟨T, rfl⟩ := Int.eq_ofNat_of_zero_le p1.1
  have hT : T ≤ 1000000000000000 := by omega
  have HWL := Lib.hid (wt_nonneg l)
  have HLn : Hid ((wtL l).length ≤ 40) := Lib.hid (by rw [wtL_length]; omega)
  have H64 := Lib.hid (in64_wt l)
  clear p1
  go_enter Try.func8, Try.ntmps8
  go_wp2_with fail
  refine (sane_calls _).mono ?_
  rintro e w1 ⟨rfl, b1⟩
  have a1 : Hld w w1 := Lib.hid b1
  have HA1 := Lib.hid (HA.out.keep b1)
  clear b1 HA
  go_wp2_with fail
  refine (H1.out _).mono ?_
  rintro e w2 ⟨rfl, rfl⟩
  go_wp2_with fail
  refine (weights_calls l A cap _ HA1.out).mono ?_
  rintro e w2 ⟨⟨v, rfl, hv⟩, b2⟩
  have a2 := a1.step b2
  clear b2 a1 HA1
  generalize wtL l = M at *
  obtain ⟨A2, c2, rfl, hA2⟩ := hv.arg H64.out
  have HA2 := Lib.hid hA2
  have hcap := hA2.cap_
  clear hv hA2
  obtain ⟨n, hn⟩ : ∃ n, M.length = n := ⟨_, rfl⟩
  have Hn := Lib.hid hn
  have hn40 := HLn.out
  rw [hn] at hcap hn40 ⊢
  clear hn HLn
  have CA := ap_all (T : Int) M A2 c2 w2 HA2.out.ints (by rw [Hn.out]; omega)
  rw [Hn.out] at CA
  have HCA := Lib.hid CA
  clear CA
  go_wp2_with fail
  refine HCA.out.mono ?_
  rintro e w3 (⟨hok, ⟨g, cp, rfl, hcp, hI3⟩, b3⟩ | ⟨_, rfl, b3⟩)
  case inr =>
    have a3 := a2.step b3
    unfold apNo
    clear b3
    go_wp2_with fail
    go_ret
    exact ⟨rfl, Hid.out a3⟩
  have HOk := Lib.hid hok
  have hn1 := apOk_len hok
  have a3 := a2.step b3
  have HA3 := Lib.hid (HA2.out.keep b3)
  have HI3 := Lib.hid hI3
  rw [Hn.out] at hcp hn1 ⊢
  clear b3 hI3 HCA HA2 hok
  obtain ⟨b, o, rfl, hI⟩ : ∃ b o, A2 = some ⟨b, o, none⟩ ∧ IntsAt w3 b o M := by
    rcases HA3.out.ints with h | h
    · have h0 := Hn.out
      rw [h, List.length_nil] at h0
      omega
    · exact h
  have HIM := Lib.hid hI
  clear hI HA3
  have HC1 : Hid (∀ i, i < n → w3.cell? ⟨b, o + i, none⟩ = some (.int .i64 ((wN M i : Nat) : Int))) := Lib.hid (fun i hi => by
    have := HIM.out i (by rw [Hn.out]; exact hi)
    rwa [wN_cast M i (by rw [Hn.out]; exact hi) HWL.out] at this)
  have HC2 : Hid (∀ i, i < n → w3.cell? ⟨g, i, none⟩ = some (.int .i64 ((pN T M i : Nat) : Int))) := Lib.hid (fun i hi => by
    have := HI3.out i (by rw [apL_length, Hn.out]; exact hi)
    rwa [apL_get T M i (by rw [Hn.out]; exact hi), Nat.zero_add] at this)
  have HP : Hid (∀ i, i < n → pN T M i ≤ T) := Lib.hid (fun i hi => by
    have h1 := p_sum T M HOk.out
    have h2 := sumTo_part_le (pN T M) i M.length (by rw [Hn.out]; exact hi)
    rw [Int.toNat_natCast] at h1
    omega)
  have HMo : Hid (∀ i j, i < n → j < n → wN M j < wN M i → pN T M j ≤ pN T M i) := Lib.hid (fun i j hi hj h => p_mono T M HOk.out i j (by rw [Hn.out]; exact hi) (by rw [Hn.out]; exact hj) h)
  have HEq : Hid (∀ i j, i < n → j < i → wN M i = wN M j → pN T M j = pN T M i ∨ pN T M j = pN T M i + 1) := Lib.hid (fun i j hi hj h => p_equal T M HOk.out i j (by rw [Hn.out]; exact hi) (by rw [Hn.out]; omega) hj h)
  have HF0 : Hid (FairR w w3 b o g n (wN M) (pN T M)) := Lib.hid ⟨HC1.out, HC2.out, Hid.out a3⟩
  clear HIM HI3 HWL HC1 HC2 a3
  go_wp2_with fail
  go_loopw [9] (fun iv wr => ∃ i : Nat, i ≤ n ∧ iv = .int .i64 (i : Int) ∧ Hid (FairR w wr b o g n (wN M) (pN T M))) (fun iv _ => n - (intOf iv).toNat)
  case atStart => exact ⟨0, by omega, rfl, HF0⟩
  case round =>
    clear HF0
    obtain ⟨i, hi, rfl, HF⟩ := hrel
    by_cases hlt : i < n
    · go_wp2_with fail
      obtain ⟨wo, rfl⟩ : ∃ wo : World, wo = wr := ⟨_, rfl⟩
      go_loopw [10] (fun kv wz => ∃ k : Nat, k ≤ i ∧ kv = .int .i64 (k : Int) ∧ Hid (FairR w wz b o g n (wN M) (pN T M))) (fun kv _ => i - (intOf kv).toNat)
      case atStart => exact ⟨0, by omega, rfl, HF⟩
      case round =>
        clear HF
        obtain ⟨k, hk, rfl, HF⟩ := hrel
        by_cases hlt2 : k < i
        · have c1 := HF.out.rowX i hlt
          have c2' := HF.out.rowX k (by omega)
          have c3 := HF.out.rowP i hlt
          have c4 := HF.out.rowP k (by omega)
          have q1 := HP.out i hlt
          have q2 := HP.out k (by omega)
          have m1 := HMo.out i k hlt (by omega)
          have m2 := HMo.out k i (by omega) hlt
          have m3 := HEq.out i k hlt hlt2
          generalize wN M i = x at *
          generalize wN M k = y at *
          generalize pN T M i = P at *
          generalize pN T M k = R at *
          have k0 : (0 : Int) ≤ (i : Int) := by omega
          have k1 : (i : Int) < (n : Int) := by omega
          have k2 : (0 : Int) ≤ (k : Int) := by omega
          have k3 : (k : Int) < (n : Int) := by omega
          have k4 : (k : Int) < (i : Int) := by omega
          have k5 : (P : Int) + 1 ≤ 1000000000000001 := by omega
          have hcases : (decide ((y : Int) < (x : Int)) = true ∧ decide ((P : Int) < (R : Int)) = false ∧ decide ((x : Int) < (y : Int)) = false ∧ ((x : Int) == (y : Int)) = false) ∨
              (decide ((y : Int) < (x : Int)) = false ∧ decide ((x : Int) < (y : Int)) = true ∧ decide ((R : Int) < (P : Int)) = false ∧ ((x : Int) == (y : Int)) = false) ∨
              (x = y ∧ R = P) ∨ (x = y ∧ R = P + 1) := by
            by_cases h1 : y < x
            · left
              have := m1 h1
              exact ⟨decide_eq_true (by omega), decide_eq_false (by omega), decide_eq_false (by omega), by rw [beq_eq_false_iff_ne]; omega⟩
            · by_cases h2 : x < y
              · right; left
                have := m2 h2
                exact ⟨decide_eq_false (by omega), decide_eq_true (by omega), decide_eq_false (by omega), by rw [beq_eq_false_iff_ne]; omega⟩
              · have e : x = y := by omega
                rcases m3 e with h | h
                · exact Or.inr (Or.inr (Or.inl ⟨e, h⟩))
                · exact Or.inr (Or.inr (Or.inr ⟨e, h⟩))
          clear m1 m2 m3
          rcases hcases with ⟨f1, f2, f3, f4⟩ | ⟨f1, f2, f3, f4⟩ | ⟨rfl, rfl⟩ | ⟨rfl, hR⟩
          case' inl =>
            have f1' : decide (y < x) = true := by simpa using f1
            have f2' : decide (P < R) = false := by simpa using f2
            have f3' : decide (x < y) = false := by simpa using f3
            have f4' : (x == y) = false := by rw [beq_eq_false_iff_ne] at f4 ⊢; omega
          case' inr.inl =>
            have f1' : decide (y < x) = false := by simpa using f1
            have f2' : decide (x < y) = true := by simpa using f2
            have f3' : decide (R < P) = false := by simpa using f3
            have f4' : (x == y) = false := by rw [beq_eq_false_iff_ne] at f4 ⊢; omega
          case' inr.inr.inr =>
            have r1 : ((R : Int) != (P : Int)) = true := by rw [bne_iff_ne]; omega
            have r2 : ((R : Int) != (P : Int) + 1) = false := by rw [bne_eq_false_iff_eq]; omega
            have r1' : (R != P) = true := by rw [bne_iff_ne]; omega
            have r3 : ¬ R = P := by omega
            clear hR
          all_goals
            go_wp2_with fail
            simp only [List.append_eq, List.cons_append, List.nil_append]
            go_quiet (fail)
            go_wp2_with fail
            go_roundw
            case rel => exact ⟨k + 1, by omega, by go_num, Lib.hid (HF.out.drewN _)⟩
            case measure => simp [intOf]; omega
        · obtain rfl : k = i := by omega
          go_wp2_with fail
          go_roundw
          case rel => exact ⟨k + 1, by omega, by go_num, HF⟩
          case measure => simp [intOf]; omega
    · obtain rfl : i = n := by omega
      go_wp2_with fail
      go_ret
      exact ⟨rfl, HF.out.bel⟩
end Go.Proofs.Ytediphiebamffaa
