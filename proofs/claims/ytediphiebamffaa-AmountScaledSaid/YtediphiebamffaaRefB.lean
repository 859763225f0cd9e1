/- Contracts of the reference implementation of layer 3: MulDiv, Percent, weigh, Same, Sum (any slice). -/
import Derived.Test.YtediphiebamffaaRefD
import Derived.Test.YtediphiebamffaaOwn
namespace Go.Proofs.Ytediphiebamffaa
open Go.RowKit

set_option maxRecDepth 100000 in
theorem refMulDiv_nat (a b c : Nat) (w : World) (ha : a ≤ 9223372036854775807) (hb : b ≤ 9223372036854775807) (h1 : 1 ≤ c) (hc : c ≤ 9223372036854775807) :
    Calls Try.prog 15 #[.int .i64 (a : Int), .int .i64 (b : Int), .int .i64 (c : Int)] w fun e w' => e = .returned (mdV a b c) ∧ w = w' := by
  rw [mdV_nat a b c h1]
  have HD := Lib.hid (fun W' => divide_calls a b c W' ha hb h1 hc)
  by_cases hq : a * b / c ≤ 4611686018427387903
  · have HV : Hid (divAns a b c = .tuple #[.int .i64 ((a * b / c : Nat) : Int), .int .i64 ((a * b % c : Nat) : Int), .bool true]) := Lib.hid (by unfold divAns; rw [if_pos hq])
    rw [if_pos hq]
    clear hq
    generalize a * b / c = q at *
    generalize a * b % c = r at *
    have k0 : (0 : Int) ≤ (a : Int) := by omega
    have k1 : (0 : Int) ≤ (b : Int) := by omega
    have k2 : (1 : Int) ≤ (c : Int) := by omega
    go_enter Try.func15, Try.ntmps15
    go_wp2_with fail
    refine (HD.out _).mono ?_
    rintro e w' ⟨rfl, rfl⟩
    rw [HV.out]
    go_wp2_with fail
    refine bodyPost_ret (results_tmp2 rfl _ _ _) rfl ?_
    exact ⟨rfl, rfl⟩
  · have HV : Hid (divAns a b c = .tuple #[.int .i64 0, .int .i64 0, .bool false]) := Lib.hid (by unfold divAns; rw [if_neg hq])
    rw [if_neg hq]
    clear hq
    have k0 : (0 : Int) ≤ (a : Int) := by omega
    have k1 : (0 : Int) ≤ (b : Int) := by omega
    have k2 : (1 : Int) ≤ (c : Int) := by omega
    go_enter Try.func15, Try.ntmps15
    go_wp2_with fail
    refine (HD.out _).mono ?_
    rintro e w' ⟨rfl, rfl⟩
    rw [HV.out]
    go_wp2_with fail
    refine bodyPost_ret (results_tmp2 rfl _ _ _) rfl ?_
    exact ⟨rfl, rfl⟩
theorem refMulDiv_bad (a b c : Int) (w : World) (h : a < 0 ∨ b < 0 ∨ c < 1) :
    Calls Try.prog 15 #[.int .i64 a, .int .i64 b, .int .i64 c] w fun e w' => e = .returned (mdV a b c) ∧ w = w' := by
  have HV := Lib.hid (show mdV a b c = .tuple #[.int .i64 0, .bool false] from by unfold mdV; rw [if_neg (fun h2 => by have := h2.1; have := h2.2.1; have := h2.2.2.1; omega)])
  by_cases h1 : a < 0
  · clear h
    go_enter Try.func15, Try.ntmps15
    go_wp2_with fail
    refine bodyPost_ret (results_tmp2 rfl _ _ _) rfl ?_
    exact ⟨by rw [HV.out]; rfl, rfl⟩
  · have k1 : 0 ≤ a := by omega
    by_cases h2 : b < 0
    · clear h h1
      go_enter Try.func15, Try.ntmps15
      go_wp2_with fail
      refine bodyPost_ret (results_tmp2 rfl _ _ _) rfl ?_
      exact ⟨by rw [HV.out]; rfl, rfl⟩
    · have k2 : 0 ≤ b := by omega
      have k3 : c < 1 := by omega
      clear h h1 h2
      go_enter Try.func15, Try.ntmps15
      go_wp2_with fail
      refine bodyPost_ret (results_tmp2 rfl _ _ _) rfl ?_
      exact ⟨by rw [HV.out]; rfl, rfl⟩
theorem refMulDiv_calls (a b c : Int) (w : World) (ha : a ≤ 9223372036854775807) (hb : b ≤ 9223372036854775807) (hc : c ≤ 9223372036854775807) :
    Calls Try.prog 15 #[.int .i64 a, .int .i64 b, .int .i64 c] w fun e w' => e = .returned (mdV a b c) ∧ w = w' := by
  by_cases h : a < 0 ∨ b < 0 ∨ c < 1
  · exact refMulDiv_bad a b c w h
  · obtain ⟨a', rfl⟩ := Int.eq_ofNat_of_zero_le (show 0 ≤ a by omega)
    obtain ⟨b', rfl⟩ := Int.eq_ofNat_of_zero_le (show 0 ≤ b by omega)
    obtain ⟨c', rfl⟩ := Int.eq_ofNat_of_zero_le (show 0 ≤ c by omega)
    exact refMulDiv_nat a' b' c' w (by omega) (by omega) (by omega) (by omega)

theorem refPercent_calls (t s : Int) (w : World) (ht : t ≤ 9223372036854775807) (hs : s ≤ 9223372036854775807) :
    Calls Try.prog 17 #[.int .i64 t, .int .i64 s] w fun e w' => e = .returned (.int .i64 (pcF t s)) ∧ w = w' := by
  by_cases h : (0 ≤ t ∧ t ≤ 1000000000000000) ∧ (0 ≤ s ∧ s ≤ 1000000)
  · have HR := Lib.hid (show mdV t s 1000000 = .tuple #[.int .i64 (pcF t s), .bool true] from by
      have h3 := pc_small t s h.1 h.2
      unfold mdV
      rw [if_pos ⟨h.1.1, h.2.1, by omega, by omega⟩]
      unfold pcF
      rw [if_pos h])
    obtain ⟨⟨k1, k2⟩, k3, k4⟩ := h
    go_enter Try.func17, Try.ntmps17
    go_wp2_with fail
    refine (refMulDiv_calls t s 1000000 _ ht hs (by omega)).mono ?_
    rintro e w' ⟨rfl, rfl⟩
    rw [HR.out]
    go_wp2_with fail
    go_ret
    exact ⟨rfl, rfl⟩
  · have HR := Lib.hid (show pcF t s = 0 from by unfold pcF; rw [if_neg h])
    by_cases h1 : t < 0
    · clear h
      go_enter Try.func17, Try.ntmps17
      go_wp2_with fail
      go_ret
      exact ⟨by rw [HR.out]; rfl, rfl⟩
    · have k1 : 0 ≤ t := by omega
      by_cases h2 : 1000000000000000 < t
      · clear h h1
        go_enter Try.func17, Try.ntmps17
        go_wp2_with fail
        go_ret
        exact ⟨by rw [HR.out]; rfl, rfl⟩
      · have k2 : t ≤ 1000000000000000 := by omega
        by_cases h3 : s < 0
        · clear h h1 h2
          go_enter Try.func17, Try.ntmps17
          go_wp2_with fail
          go_ret
          exact ⟨by rw [HR.out]; rfl, rfl⟩
        · have k3 : 0 ≤ s := by omega
          have k4 : 1000000 < s := by omega
          clear h h1 h2 h3
          go_enter Try.func17, Try.ntmps17
          go_wp2_with fail
          go_ret
          exact ⟨by rw [HR.out]; rfl, rfl⟩

theorem refSum_none (A : Option Addr) (cap : Nat) (w : World) : Calls Try.prog 26 #[.slice A 0 cap] w fun e w' => e = .returned (.tuple #[.int .i64 0, .bool true]) ∧ w = w' := by
  go_enter Try.func26, Try.ntmps26
  go_wp2_with fail
  go_loop [4, 5] (fun sv iv => sv = .int .i64 0 ∧ iv = .int .i64 0) (fun _ _ => 0)
  case atStart => exact ⟨rfl, rfl⟩
  case round =>
    obtain ⟨rfl, rfl⟩ := hrel
    go_wp2_with fail
    refine bodyPost_ret (results_tmp2 rfl _ _ _) rfl ?_
    exact ⟨rfl, rfl⟩
theorem refSum_calls (l : List Int) (A : Option Addr) (cap : Nat) (w : World) (hs : Ints w A l) (hl : l.length ≤ 1000000) (hx : In64 l) :
    Calls Try.prog 26 #[.slice A l.length cap] w fun e w' => e = .returned (smV l) ∧ w = w' := by
  rcases hs with rfl | ⟨b, o, rfl, hs⟩
  · exact refSum_none A cap w
  · exact sum_main l b o cap w hs hl (fun i hi => hx.getD i hi)

/-! ### weigh -/
/-- What weigh answers. -/
def wgV (l : List Int) : Value := match sumF 1000000000000000 l 0 with
  | some s => .tuple #[.int .i64 (s : Int), .bool (decide (0 < s))]
  | none => .tuple #[.int .i64 0, .bool false]
set_option maxRecDepth 100000 in
set_option maxHeartbeats 1000000 in
theorem weigh_calls (l : List Int) (A : Option Addr) (cap : Nat) (w : World) (hs : Ints w A l) (hl : l.length ≤ 1000000) (hx : In64 l) :
    Calls Try.prog 35 #[.slice A l.length cap] w fun e w' => e = .returned (wgV l) ∧ w = w' := by
  obtain ⟨V, hV⟩ : ∃ V, wgV l = V := ⟨_, rfl⟩
  rw [hV]
  have HL : Hid (l = [] ∨ ∃ b o, A = some ⟨b, o, none⟩ ∧ IntsAt w b o l) := Lib.hid hs
  have HA := Lib.hid (fun i hi => hx.getD i hi)
  obtain ⟨n, hn⟩ : ∃ n, l.length = n := ⟨_, rfl⟩
  have Hn := Lib.hid hn
  rw [hn] at hl ⊢
  clear hn hs hx
  have Hd := Lib.hid (sumF_drop 1000000000000000 l)
  have He : Hid (sumF 1000000000000000 (l.drop n) = fun s => some s) := Lib.hid (by rw [← Hn.out, List.drop_length]; rfl)
  obtain ⟨R, hR⟩ : ∃ R, sumF 1000000000000000 l 0 = R := ⟨_, rfl⟩
  have HR : Hid (sumF 1000000000000000 (l.drop 0) 0 = R) := Lib.hid (by rw [List.drop_zero]; exact hR)
  have HV1 : Hid (∀ s, R = some s → V = .tuple #[.int .i64 (s : Int), .bool (decide (0 < s))]) := Lib.hid (fun s h => by rw [← hV]; unfold wgV; rw [hR, h])
  have HV2 : Hid (R = none → V = .tuple #[.int .i64 0, .bool false]) := Lib.hid (fun h => by rw [← hV]; unfold wgV; rw [hR, h])
  clear hR hV
  go_enter Try.func35, Try.ntmps35
  go_wp2_with fail
  go_loop [4, 5] (fun sv iv => ∃ i s : Nat, i ≤ n ∧ iv = .int .i64 i ∧ sv = .int .i64 s ∧ s ≤ 1000000000000000 ∧ Hid (sumF 1000000000000000 (l.drop i) s = R)) (fun _ iv => n - (intOf iv).toNat)
  case atStart => exact ⟨0, 0, by omega, rfl, rfl, by omega, HR⟩
  case round =>
    obtain ⟨i, s, hi, rfl, rfl, hsM, HS⟩ := hrel
    clear HR
    by_cases hlt : i < n
    · obtain ⟨b, o, rfl, hI⟩ : ∃ b o, A = some ⟨b, o, none⟩ ∧ IntsAt w b o l := by
        rcases HL.out with h | h
        · have h0 := Hn.out
          rw [h, List.length_nil] at h0
          omega
        · exact h
      have hc := hI i (by rw [Hn.out]; exact hlt)
      have hx := HA.out i (by rw [Hn.out]; exact hlt)
      have hd := Hd.out i s (by rw [Hn.out]; exact hlt)
      rw [HS.out] at hd
      have k0 : (0 : Int) ≤ (i : Int) := by omega
      have k1 : (i : Int) < (n : Int) := by omega
      clear hI
      generalize l.getD i 0 = x at *
      by_cases hneg : x < 0
      · rw [if_neg (fun h => absurd h.1 (by omega))] at hd
        have Hd' := Lib.hid hd
        clear hd HS
        go_wp2_with fail
        refine bodyPost_ret (results_tmp2 rfl _ _ _) rfl ?_
        exact ⟨by rw [HV2.out Hd'.out]; rfl, rfl⟩
      · obtain ⟨y, rfl⟩ := Int.eq_ofNat_of_zero_le (show 0 ≤ x by omega)
        rw [Int.toNat_natCast] at hd
        by_cases hbig : s + y ≤ 1000000000000000
        · rw [if_pos ⟨by omega, hbig⟩] at hd
          have Hd' := Lib.hid hd.symm
          clear hd HS hx
          have q1 : decide ((1000000000000000 : Int) - (s : Int) < (y : Int)) = false := decide_eq_false (by omega)
          have q2 : (s : Int) + (y : Int) ≤ 1000000000000000 := by omega
          have q3 : ¬ (y : Int) < 0 := by omega
          go_wp2_with fail
          go_round
          case rel => exact ⟨i + 1, s + y, by omega, by go_num, by go_num, by omega, Hd'⟩
          case measure => simp [intOf]; omega
        · rw [if_neg (fun h => hbig h.2)] at hd
          have Hd' := Lib.hid hd
          clear hd HS
          have q1 : (1000000000000000 : Int) - (s : Int) < (y : Int) := by omega
          have q3 : ¬ (y : Int) < 0 := by omega
          clear hx hbig
          go_wp2_with fail
          refine bodyPost_ret (results_tmp2 rfl _ _ _) rfl ?_
          exact ⟨by rw [HV2.out Hd'.out]; rfl, rfl⟩
    · obtain rfl : i = n := by omega
      have hd := HS.out
      rw [He.out] at hd
      have HZ := Lib.hid (HV1.out s hd.symm)
      clear hd HS
      go_wp2_with fail
      refine bodyPost_ret (results_tmp2 rfl _ _ _) rfl ?_
      exact ⟨by rw [HZ.out]; simp, rfl⟩

/-! ### Same -/
theorem same_step (l m : List Int) (k : Nat) (h1 : k < l.length) (h2 : k < m.length) : decide (l.drop k = m.drop k) = (decide (l.getD k 0 = m.getD k 0) && decide (l.drop (k + 1) = m.drop (k + 1))) := by
  rw [List.drop_eq_getElem_cons h1, List.drop_eq_getElem_cons h2, List.getD_eq_getElem?_getD, List.getElem?_eq_getElem h1, List.getD_eq_getElem?_getD, List.getElem?_eq_getElem h2, Bool.eq_iff_iff]
  simp only [Option.getD_some, List.cons.injEq, Bool.and_eq_true, decide_eq_true_eq]
set_option maxRecDepth 100000 in
set_option maxHeartbeats 1000000 in
theorem same_calls (l m : List Int) (A B : Option Addr) (c d : Nat) (w : World) (hs : Ints w A l) (ht : Ints w B m) (hl : l.length ≤ 1000000) :
    Calls Try.prog 22 #[.slice A l.length c, .slice B m.length d] w fun e w' => e = .returned (.bool (decide (l = m))) ∧ Below w.heap.size w w' := by
  by_cases hlen : l.length = m.length
  · obtain ⟨n, hn⟩ : ∃ n, l.length = n := ⟨_, rfl⟩
    have Hn := Lib.hid hn
    have Hm : Hid (m.length = n) := Lib.hid (by rw [← hlen, hn])
    rw [← hlen, hn]
    rw [hn] at hl
    have HS1 := Lib.hid hs
    have HS2 := Lib.hid ht
    obtain ⟨R, hR⟩ : ∃ R, decide (l = m) = R := ⟨_, rfl⟩
    rw [hR]
    have HR : Hid (decide (l.drop 0 = m.drop 0) = R) := Lib.hid (by rw [List.drop_zero, List.drop_zero]; exact hR)
    have Hd := Lib.hid (same_step l m)
    clear hn hlen hs ht hR
    go_enter Try.func22, Try.ntmps22
    go_wp2_with fail
    go_loopw [5] (fun iv wr => ∃ i : Nat, i ≤ n ∧ iv = .int .i64 i ∧ Hld w wr ∧ Hid (decide (l.drop i = m.drop i) = R)) (fun iv _ => n - (intOf iv).toNat)
    case atStart => exact ⟨0, by omega, rfl, Hld.refl w, HR⟩
    case round =>
      obtain ⟨i, hi, rfl, HB, HS⟩ := hrel
      clear HR
      by_cases hlt : i < n
      · obtain ⟨b, o, rfl, hI⟩ : ∃ b o, A = some ⟨b, o, none⟩ ∧ IntsAt wr b o l := by
          rcases HS1.out with h | ⟨b, o, h1, h2⟩
          · have h0 := Hn.out
            rw [h, List.length_nil] at h0
            omega
          · exact ⟨b, o, h1, h2.keep (Hid.out HB)⟩
        obtain ⟨b2, o2, rfl, hJ⟩ : ∃ b o, B = some ⟨b, o, none⟩ ∧ IntsAt wr b o m := by
          rcases HS2.out with h | ⟨b, o, h1, h2⟩
          · have h0 := Hm.out
            rw [h, List.length_nil] at h0
            omega
          · exact ⟨b, o, h1, h2.keep (Hid.out HB)⟩
        have c1 := hI i (by rw [Hn.out]; exact hlt)
        have c2 := hJ i (by rw [Hm.out]; exact hlt)
        have hd := Hd.out i (by rw [Hn.out]; exact hlt) (by rw [Hm.out]; exact hlt)
        rw [HS.out] at hd
        have k0 : (0 : Int) ≤ (i : Int) := by omega
        have k1 : (i : Int) < (n : Int) := by omega
        clear hI hJ
        generalize l.getD i 0 = x at *
        generalize m.getD i 0 = y at *
        by_cases hxy : x = y
        · subst hxy
          rw [decide_eq_true rfl, Bool.true_and] at hd
          have Hd' := Lib.hid hd.symm
          clear hd HS
          go_wp2_with fail
          go_quiet (fail)
          go_wp2_with fail
          go_roundw
          case rel => exact ⟨i + 1, by omega, by go_num, Lib.hid (below_drewN (Hid.out HB) _), Hd'⟩
          case measure => simp [intOf]; omega
        · rw [decide_eq_false hxy, Bool.false_and] at hd
          have Hd' := Lib.hid hd
          have k2 : (x != y) = true := by simpa using hxy
          clear hd HS
          go_wp2_with fail
          go_quiet (fail)
          go_wp2_with fail
          go_ret
          exact ⟨by rw [Hd'.out]; rfl, below_drewN (Hid.out HB) _⟩
      · obtain rfl : i = n := by omega
        have hd := HS.out
        have Hd' : Hid (R = true) := Lib.hid (by
          rw [← hd, List.drop_of_length_le (by rw [Hn.out]; exact Nat.le_refl _), List.drop_of_length_le (by rw [Hm.out]; exact Nat.le_refl _)]; rfl)
        clear hd HS
        go_wp2_with fail
        go_ret
        exact ⟨by rw [Hd'.out]; rfl, Hid.out HB⟩
  · have HR : Hid (decide (l = m) = false) := Lib.hid (decide_eq_false (fun h => hlen (by rw [h])))
    have k : ((l.length : Int) != (m.length : Int)) = true := by simp; omega
    have k2 : (l.length != m.length) = true := by simp; omega
    go_enter Try.func22, Try.ntmps22
    go_wp2_with fail
    go_ret
    exact ⟨by rw [HR.out]; rfl, Below.refl _ _⟩
end Go.Proofs.Ytediphiebamffaa
