/- Contracts of the reference implementation of layer 3: Cents, Sum. -/
import Derived.Test.YtediphiebamffaaProg
import Derived.Test.YtediphiebamffaaAmtB
import Derived.WalkKit
import Derived.Below
import Derived.Lib.Hide
import Derived.IntWalk
namespace Go.Proofs.Ytediphiebamffaa
open Go.RowKit

def IntsAt (w : World) (b o : Nat) (l : List Int) : Prop := ∀ i, i < l.length → w.cell? ⟨b, o + i, none⟩ = some (.int .i64 (l.getD i 0))
abbrev maxI : Nat := 4611686018427387903
theorem sumF_drop (M : Nat) (l : List Int) (i s : Nat) (h : i < l.length) : sumF M (l.drop i) s = if 0 ≤ l.getD i 0 ∧ s + (l.getD i 0).toNat ≤ M then sumF M (l.drop (i + 1)) (s + (l.getD i 0).toNat) else none := by
  rw [List.drop_eq_getElem_cons h, List.getD_eq_getElem?_getD, List.getElem?_eq_getElem h]
  rfl

theorem cents_calls (n : Int) (w : World) (h1 : -9223372036854775808 ≤ n) (h2 : n ≤ 9223372036854775807) :
    Calls Try.prog 24 #[.int .i64 n] w fun e w' => e = .returned (.tuple #[.int .i64 (if n < 0 then 0 else n / 10000 * 10000), .int .i64 (if n < 0 then n else n % 10000)]) ∧ w = w' := by
  by_cases h : n < 0
  · rw [if_pos h, if_pos h]
    go_enter Try.func24, Try.ntmps24
    go_wp2_with fail
    refine bodyPost_ret (results_tmp2 rfl _ _ _) rfl ?_
    exact ⟨rfl, rfl⟩
  · rw [if_neg h, if_neg h]
    have h0 : 0 ≤ n := by omega
    go_enter Try.func24, Try.ntmps24
    go_wp2_with fail
    refine bodyPost_ret (results_tmp2 rfl _ _ _) rfl ?_
    exact ⟨rfl, rfl⟩

set_option maxRecDepth 100000 in
set_option maxHeartbeats 1000000 in
theorem sum_main (l : List Int) (b o cap : Nat) (w : World) (hs : IntsAt w b o l) (hl : l.length ≤ 1000000) (hx : ∀ i, i < l.length → -9223372036854775808 ≤ l.getD i 0 ∧ l.getD i 0 ≤ 9223372036854775807) :
    Calls Try.prog 26 #[.slice (some ⟨b, o, none⟩) l.length cap] w fun e w' =>
      e = .returned (.tuple #[.int .i64 (((sumF maxI l 0).getD 0 : Nat) : Int), .bool (sumF maxI l 0).isSome]) ∧ w = w' := by
  have Hs := Lib.hid hs
  have Hx := Lib.hid hx
  have Hd := Lib.hid (sumF_drop maxI l)
  have He : Hid (sumF maxI (l.drop l.length) = fun s => some s) := Lib.hid (by rw [List.drop_length]; rfl)
  clear hs hx
  obtain ⟨n, hn⟩ : ∃ n, l.length = n := ⟨_, rfl⟩
  rw [hn] at hl Hx Hd He
  rw [hn]
  have Hn := Lib.hid hn
  clear hn
  obtain ⟨R, hR⟩ : ∃ R, sumF maxI l 0 = R := ⟨_, rfl⟩
  rw [hR]
  have HR : Hid (sumF maxI (l.drop 0) 0 = R) := Lib.hid (by rw [List.drop_zero]; exact hR)
  clear hR
  go_enter Try.func26, Try.ntmps26
  go_wp2_with fail
  go_loop [4, 5] (fun sv iv => ∃ i s : Nat, i ≤ n ∧ iv = .int .i64 i ∧ sv = .int .i64 s ∧ s ≤ 4611686018427387903 ∧ Hid (sumF maxI (l.drop i) s = R)) (fun _ iv => n - (intOf iv).toNat)
  case atStart => exact ⟨0, 0, by omega, rfl, rfl, by omega, HR⟩
  case round =>
    obtain ⟨i, s, hi, rfl, rfl, hsM, HS⟩ := hrel
    clear HR
    by_cases hlt : i < n
    · have hc := Hs.out i (by rw [Hn.out]; exact hlt)
      have hx := Hx.out i hlt
      have hd := Hd.out i s hlt
      rw [HS.out] at hd
      have k0 : (0 : Int) ≤ (i : Int) := by omega
      have k1 : (i : Int) < (n : Int) := by omega
      generalize l.getD i 0 = x at *
      by_cases hneg : x < 0
      · rw [if_neg (fun h => absurd h.1 (by omega))] at hd
        have Hd' := Lib.hid hd
        clear hd HS
        go_wp2_with fail
        refine bodyPost_ret (results_tmp2 rfl _ _ _) rfl ?_
        exact ⟨by rw [Hd'.out]; rfl, rfl⟩
      · obtain ⟨y, rfl⟩ := Int.eq_ofNat_of_zero_le (show 0 ≤ x by omega)
        rw [Int.toNat_natCast] at hd
        by_cases hbig : s + y ≤ 4611686018427387903
        · rw [if_pos ⟨by omega, hbig⟩] at hd
          have Hd' := Lib.hid hd.symm
          clear hd HS
          have q1 : ¬ (4611686018427387903 : Int) - (s : Int) < (y : Int) := by omega
          have q2 : ¬ (y : Int) < 0 := by omega
          go_wp2_with fail
          go_round
          case rel => exact ⟨i + 1, s + y, by omega, by go_num, by go_num, by omega, Hd'⟩
          case measure => simp [intOf]; omega
        · rw [if_neg (fun h => hbig h.2)] at hd
          have Hd' := Lib.hid hd
          clear hd HS
          have q1 : (4611686018427387903 : Int) - (s : Int) < (y : Int) := by omega
          have q2 : ¬ (y : Int) < 0 := by omega
          go_wp2_with fail
          refine bodyPost_ret (results_tmp2 rfl _ _ _) rfl ?_
          exact ⟨by rw [Hd'.out]; rfl, rfl⟩
    · obtain rfl : i = n := by omega
      have hd := HS.out
      rw [He.out] at hd
      have Hd' := Lib.hid hd.symm
      clear hd HS
      go_wp2_with fail
      refine bodyPost_ret (results_tmp2 rfl _ _ _) rfl ?_
      exact ⟨by rw [Hd'.out]; rfl, rfl⟩
end Go.Proofs.Ytediphiebamffaa
