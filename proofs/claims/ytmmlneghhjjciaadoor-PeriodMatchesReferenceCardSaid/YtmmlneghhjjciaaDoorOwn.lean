/- The contracts of package period: monthDays, valid, Days, Start, Of. Condition: the table of lengths reads as the program lays it. -/
import Derived.Test.YtmmlneghhjjciaaDoorRefP
namespace Go.Proofs.YtmmlneghhjjciaaDoor
open Go.RowKit

/-- The table of lengths reads as the program lays it. -/
def Konst (w : World) : Prop := ∀ i : Nat, i < 12 → w.cell? ⟨0, i, none⟩ = some (.int .i64 ((tblN i : Nat) : Int))
theorem Konst.keep {w w' : World} (h : Konst w) (hb : Below w.heap.size w w') : Konst w' := fun i hi =>
  (hb.cell (p := ⟨0, i, none⟩) (World.block_lt_of_cell? w _ (h i hi))).trans (h i hi)

theorem month_calls (m : Nat) (hm : m < 48) (w : World) (hK : Konst w) :
    Calls Tryd.prog 20 #[.int .i64 (m : Int)] w fun e W' => e = .returned (.int .i64 ((daysN m : Nat) : Int)) ∧ w = W' := by
  by_cases h1 : m = 1
  · subst h1
    go_enter Tryd.func20, Tryd.ntmps20
    go_wp2_with fail
    go_ret
    exact ⟨rfl, rfl⟩
  · obtain ⟨k, hk⟩ : ∃ k, m % 12 = k := ⟨_, rfl⟩
    have hk12 : k < 12 := by omega
    have e1 : (m : Int) % 12 = (k : Int) := by omega
    have HD : Hid (daysN m = tblN k) := Lib.hid (by unfold daysN; rw [hk, if_neg (by omega)])
    have hc := hK k hk12
    clear hk
    go_enter Tryd.func20, Tryd.ntmps20
    go_wp2_with fail
    go_ret
    exact ⟨by rw [HD.out]; rfl, rfl⟩

theorem valid_yes (p : Int) (w : World) (h0 : 0 ≤ p) (h1 : p < 1200) : Calls Tryd.prog 21 #[.int .i64 p] w fun e W' => e = .returned (.bool true) ∧ w = W' := by
  go_enter Tryd.func21, Tryd.ntmps21
  go_wp2_with fail
  go_ret
  exact ⟨by simp, rfl⟩
theorem valid_not (p : Int) (w : World) (hp : p < 0 ∨ 1200 ≤ p) : Calls Tryd.prog 21 #[.int .i64 p] w fun e W' => e = .returned (.bool false) ∧ w = W' := by
  rcases hp with h | h
  · go_enter Tryd.func21, Tryd.ntmps21
    go_wp2_with fail
    go_ret
    exact ⟨by simp, rfl⟩
  · have h0 : 0 ≤ p := by omega
    go_enter Tryd.func21, Tryd.ntmps21
    go_wp2_with fail
    go_ret
    exact ⟨by simp [h], rfl⟩

theorem Days_calls (p : Nat) (hp : p < 1200) (w : World) (hK : Konst w) :
    Calls Tryd.prog 16 #[.int .i64 (p : Int)] w fun e W' => e = .returned (.int .i64 ((daysN p : Nat) : Int)) ∧ w = W' := by
  obtain ⟨k, hk⟩ : ∃ k, p % 48 = k := ⟨_, rfl⟩
  have hk48 : k < 48 := by omega
  have e1 : (p : Int) % 48 = (k : Int) := by omega
  have HD : Hid (daysN p = daysN k) := Lib.hid (by rw [← hk, daysN_mod])
  have k0 : (0 : Int) ≤ (p : Int) := by omega
  have k1 : (p : Int) < 1200 := by omega
  clear hk
  go_enter Tryd.func16, Tryd.ntmps16
  go_wp2_with fail
  refine (valid_yes _ _ k0 k1).mono ?_
  rintro e w' ⟨rfl, rfl⟩
  go_wp2_with fail
  refine (month_calls k hk48 _ hK).mono ?_
  rintro e w' ⟨rfl, rfl⟩
  go_wp2_with fail
  go_ret
  exact ⟨by rw [HD.out]; rfl, rfl⟩
theorem Days_not (p : Int) (w : World) (hp : p < 0 ∨ 1200 ≤ p) : Calls Tryd.prog 16 #[.int .i64 p] w fun e W' => e = .returned (.int .i64 0) ∧ w = W' := by
  have Hp := Lib.hid hp
  clear hp
  go_enter Tryd.func16, Tryd.ntmps16
  go_wp2_with fail
  refine (valid_not _ _ Hp.out).mono ?_
  rintro e w' ⟨rfl, rfl⟩
  go_wp2_with fail
  go_ret
  exact ⟨rfl, rfl⟩

theorem upN_cycle (c k : Nat) : upN (48 * c + k) = 1461 * c + upN k := by
  have h0 : ∀ c, upN (48 * c) = 1461 * c := by
    intro c
    induction c with
    | zero => rfl
    | succ c ih => rw [show 48 * (c + 1) = 48 * c + 48 by omega, upN_add, four, ih]; omega
  rw [upN_add, h0, ← sumD_mod, Nat.mul_mod_right]
  have := upN_add 0 k
  rw [Nat.zero_add, show upN 0 = 0 from rfl, Nat.zero_add] at this
  rw [this]

theorem Start_not (p : Int) (w : World) (hp : p < 0 ∨ 1200 < p) : Calls Tryd.prog 14 #[.int .i64 p] w fun e W' => e = .returned (.int .i64 (-1)) ∧ w = W' := by
  have Hv := Lib.hid (valid_not p w (by omega))
  have hne : ¬ p = 1200 := by omega
  clear hp
  go_enter Tryd.func14, Tryd.ntmps14
  go_wp2_with fail
  refine Hv.out.mono ?_
  rintro e w' ⟨rfl, rfl⟩
  go_wp2_with fail
  go_ret
  exact ⟨rfl, rfl⟩

set_option maxRecDepth 100000 in
theorem Start_calls (p : Nat) (hp : p ≤ 1200) (w : World) (hK : Konst w) :
    Calls Tryd.prog 14 #[.int .i64 (p : Int)] w fun e W' => e = .returned (.int .i64 ((86400 * upN p : Nat) : Int)) ∧ w = W' := by
  obtain ⟨c, hc⟩ : ∃ c, p / 48 = c := ⟨_, rfl⟩
  obtain ⟨k, hk⟩ : ∃ k, p % 48 = k := ⟨_, rfl⟩
  have hk48 : k < 48 := by omega
  have hc25 : c ≤ 25 := by omega
  have e1 : (p : Int) % 48 = (k : Int) := by omega
  have e2 : (p : Int) / 48 = (c : Int) := by omega
  have HS : Hid (upN p = 1461 * c + upN k) := Lib.hid (by rw [← upN_cycle]; congr 1; omega)
  have k0 : (0 : Int) ≤ (p : Int) := by omega
  have k1 : (p : Int) ≤ 1200 := by omega
  have Hv := Lib.hid (fun h : (p : Int) < 1200 => valid_yes (p : Int) w k0 h)
  have HK := Lib.hid hK
  have Hu := Lib.hid (show 1461 * c + upN k ≤ 36525 by have h := HS.out; have := upN_le p hp; omega)
  have E1 := Lib.hid e1
  have E2 := Lib.hid e2
  clear hk hc hK hp
  rw [HS.out]
  clear HS
  by_cases h12 : (p : Int) = 1200
  · obtain rfl : k = 0 := by omega
    obtain rfl : c = 25 := by omega
    clear E1 E2
    go_enter Tryd.func14, Tryd.ntmps14
    go_wp2_with fail
    go_loopw [3, 17] (fun nv iv wr => ∃ i n : Nat, i ≤ 0 ∧ iv = .int .i64 i ∧ nv = .int .i64 n ∧ n = 36525 ∧ Hid (w = wr)) (fun _ iv _ => 0)
    case atStart => exact ⟨0, 36525, by omega, rfl, rfl, rfl, Lib.hid rfl⟩
    case round =>
      obtain ⟨i, n, hi, rfl, rfl, rfl, HW⟩ := hrel
      obtain rfl := HW.out
      obtain rfl : i = 0 := by omega
      go_wp2_with fail
      go_ret
      exact ⟨rfl, rfl⟩
  · have hb : ((p : Int) != 1200) = true := by simpa using h12
    clear e1 e2
    go_enter Tryd.func14, Tryd.ntmps14
    go_wp2_with fail
    refine (Hv.out (by omega)).mono ?_
    rintro e w' ⟨rfl, rfl⟩
    go_wp2_with fail
    rw [E1.out, E2.out]
    go_loopw [3, 17] (fun nv iv wr => ∃ i n : Nat, i ≤ k ∧ iv = .int .i64 i ∧ nv = .int .i64 n ∧ n ≤ 36525 ∧ Hid (n = 1461 * c + upN i) ∧ Hid (w = wr)) (fun _ iv _ => k - (intOf iv).toNat)
    case atStart => exact ⟨0, 1461 * c, by omega, rfl, by go_num, by omega, Lib.hid rfl, Lib.hid rfl⟩
    case round =>
      obtain ⟨i, n, hi, rfl, rfl, hn, HN, HW⟩ := hrel
      obtain rfl := HW.out
      by_cases hlt : i < k
      · have hd := daysN_bd i
        have hu2 := upN_mono (i + 1) k (by omega)
        have HN2 : Hid (n + daysN i = 1461 * c + upN (i + 1)) := Lib.hid (by rw [HN.out]; show _ = 1461 * c + (upN i + daysN i); omega)
        have hb2 : n + daysN i ≤ 36525 := by have := HN2.out; have := Hu.out; omega
        have D := Lib.hid (month_calls i (by omega) w HK.out)
        clear hu2 HN
        generalize daysN i = d at *
        go_wp2_with fail
        refine D.out.mono ?_
        rintro e w2 ⟨rfl, rfl⟩
        go_wp2_with fail
        go_roundw
        case rel => exact ⟨i + 1, n + d, by omega, by go_num, by go_num, hb2, HN2, Lib.hid trivial⟩
        case measure => simp [intOf]; omega
      · obtain rfl : i = k := by omega
        go_wp2_with fail
        go_ret
        have e : ((n : Int) * 86400) = 86400 * (1461 * (c : Int) + (upN i : Int)) := by have := HN.out; omega
        exact ⟨by rw [← e]; rfl, rfl⟩

set_option maxRecDepth 100000 in
set_option maxHeartbeats 1000000 in
theorem Of_not (x : Int) (w : World) (hx : x < 0 ∨ 3155760000 ≤ x) : Calls Tryd.prog 10 #[.int .i64 x] w fun e W' => e = .returned (.tuple #[.int .i64 0, .int .i64 0, .bool false]) ∧ w = W' := by
  rcases hx with h | h
  · go_enter Tryd.func10, Tryd.ntmps10
    go_wp2_with fail
    go_ret3
    exact ⟨rfl, rfl⟩
  · have h0 : 0 ≤ x := by omega
    go_enter Tryd.func10, Tryd.ntmps10
    go_wp2_with fail
    go_ret3
    exact ⟨rfl, rfl⟩

set_option maxRecDepth 100000 in
set_option maxHeartbeats 1000000 in
theorem Of_calls (x : Int) (k0 : 0 ≤ x) (k1 : x < 3155760000) (w : World) (hK : Konst w) :
    Calls Tryd.prog 10 #[.int .i64 x] w fun e W' => e = .returned (.tuple #[.int .i64 ((perN (x / 86400).toNat : Nat) : Int), .int .i64 (((dayN (x / 86400).toNat : Nat) : Int) + 1), .bool true]) ∧ w = W' := by
  obtain ⟨d, hd⟩ : ∃ d, (x / 86400).toNat = d := ⟨_, rfl⟩
  have hdl : d < 36525 := by omega
  have e1 : x / 86400 = (d : Int) := by omega
  obtain ⟨c, hc⟩ : ∃ c, d / 1461 = c := ⟨_, rfl⟩
  obtain ⟨r, hr⟩ : ∃ r, d % 1461 = r := ⟨_, rfl⟩
  have hr0 : r < 1461 := by omega
  have hc0 : c ≤ 24 := by omega
  have e2 : (d : Int) / 1461 = (c : Int) := by omega
  have e3 : (d : Int) % 1461 = (r : Int) := by omega
  have hdr : d = 1461 * c + r := by omega
  rw [hd]
  have HU : Hid (∀ m e, m < 48 → upN m + e = r → e < daysN m → perN d = 48 * c + m ∧ dayN d = e) := Lib.hid (by
    intro m e hm h1 h2
    have h3 := perN_unique d (48 * c + m) e hdl (by rw [upN_cycle]; omega) (by rw [← daysN_mod, show (48 * c + m) % 48 = m by omega]; exact h2)
    exact ⟨h3.1.symm, h3.2.symm⟩)
  have HK := Lib.hid hK
  have H48 : Hid (upN 48 = 1461) := Lib.hid (by have := upN_cycle 1 0; simpa [upN] using this)
  generalize perN d = P at *
  generalize dayN d = E at *
  have E1 := Lib.hid e1
  have E2 := Lib.hid e2
  have E3 := Lib.hid e3
  clear hd hc hr hdr e1 hdl hK e2 e3
  go_enter Tryd.func10, Tryd.ntmps10
  go_wp2_with fail
  rw [E1.out, E2.out, E3.out]
  go_loopw [6, 7, 23] (fun pv lv iv wr => ∃ i n : Nat, i ≤ 48 ∧ iv = .int .i64 i ∧ pv = .int .i64 ((48 * c + i : Nat) : Int) ∧ lv = .int .i64 n ∧ n < 1461 ∧ Hid (n + upN i = r) ∧ Hid (w = wr)) (fun _ _ iv _ => 48 - (intOf iv).toNat)
  case atStart => exact ⟨0, r, by omega, rfl, by go_num, rfl, hr0, Lib.hid rfl, Lib.hid rfl⟩
  case round =>
    obtain ⟨i, n, hi, rfl, rfl, rfl, hn, HN, HW⟩ := hrel
    obtain rfl := HW.out
    have hlt : i < 48 := by
      rcases Nat.lt_or_ge i 48 with h | h
      · exact h
      · obtain rfl : i = 48 := by omega
        have := HN.out; have := H48.out; omega
    have hd := daysN_bd i
    have D := Lib.hid (month_calls i hlt w HK.out)
    have HU2 : Hid (n < daysN i → P = 48 * c + i ∧ E = n) := Lib.hid fun h => HU.out i n hlt (by have := HN.out; omega) h
    have HN2 : Hid (daysN i ≤ n → n - daysN i + upN (i + 1) = r) := Lib.hid fun h => by have := HN.out; show n - daysN i + (upN i + daysN i) = r; omega
    clear HN
    generalize daysN i = m at *
    go_wp2_with fail
    refine D.out.mono ?_
    rintro e w2 ⟨rfl, rfl⟩
    by_cases hb : n < m
    · go_wp2_with fail
      go_ret3
      rw [(HU2.out hb).1, (HU2.out hb).2]
      exact ⟨rfl, rfl⟩
    · go_wp2_with fail
      go_roundw
      case rel => exact ⟨i + 1, n - m, by omega, by go_num, by go_num, by go_num, by omega, Lib.hid (HN2.out (by omega)), Lib.hid trivial⟩
      case measure => simp [intOf]; omega
end Go.Proofs.YtmmlneghhjjciaaDoor
