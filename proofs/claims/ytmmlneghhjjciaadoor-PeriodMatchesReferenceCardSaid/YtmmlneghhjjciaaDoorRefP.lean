/- Contracts of the reference implementation of layer 4: Days, Start, Of, Format, Parse. -/
import Derived.Test.YtmmlneghhjjciaaDoorProg
import Derived.Test.YtmmlneghhjjciaaDoorPer
import Derived.WalkKit
import Derived.Below
import Derived.Lib.Hide
import Derived.IntWalk
namespace Go.Proofs.YtmmlneghhjjciaaDoor
open Go.RowKit

theorem tbl_get (k : Nat) (h : k < [Value.int .i64 31, .int .i64 28, .int .i64 31, .int .i64 30, .int .i64 31, .int .i64 30, .int .i64 31, .int .i64 31, .int .i64 30, .int .i64 31, .int .i64 30, .int .i64 31].length) :
    [Value.int .i64 31, .int .i64 28, .int .i64 31, .int .i64 30, .int .i64 31, .int .i64 30, .int .i64 31, .int .i64 31, .int .i64 30, .int .i64 31, .int .i64 30, .int .i64 31][k] = .int .i64 ((tblN k : Nat) : Int) := by
  rcases (show k = 0 ∨ k = 1 ∨ k = 2 ∨ k = 3 ∨ k = 4 ∨ k = 5 ∨ k = 6 ∨ k = 7 ∨ k = 8 ∨ k = 9 ∨ k = 10 ∨ k = 11 by simp at h; omega) with rfl | rfl | rfl | rfl | rfl | rfl | rfl | rfl | rfl | rfl | rfl | rfl <;> rfl

set_option maxHeartbeats 400000 in
theorem rDays_calls (p : Nat) (hp : p < 1200) (w : World) :
    Calls Tryd.prog 17 #[.int .i64 (p : Int)] w fun e W' => e = .returned (.int .i64 ((daysN p : Nat) : Int)) ∧ Below w.heap.size w W' := by
  obtain ⟨m, hm⟩ : ∃ m, p % 12 = m := ⟨_, rfl⟩
  obtain ⟨y, hy⟩ : ∃ y, p / 12 = y := ⟨_, rfl⟩
  have hm12 : m < 12 := by omega
  have hy100 : y < 100 := by omega
  have e1 : (p : Int) % 12 = (m : Int) := by omega
  have e2 : (p : Int) / 12 = (y : Int) := by omega
  have HD : Hid (daysN p = if m = 1 ∧ y % 4 = 0 then 29 else tblN m) := Lib.hid (by unfold daysN; rw [hm, hy])
  have k0 : (0 : Int) ≤ (p : Int) := by omega
  clear hm hy
  by_cases h1 : m = 1
  · by_cases h2 : y % 4 = 0
    · go_enter Tryd.func17, Tryd.ntmps17
      go_wp2_with fail
      go_ret
      refine ⟨?_, (Below.refl _ _).alloc (Nat.le_refl _) _⟩
      rw [HD.out, if_pos ⟨h1, h2⟩]; rfl
    · go_enter Tryd.func17, Tryd.ntmps17
      go_wp2_with fail
      go_ret
      refine ⟨?_, (Below.refl _ _).alloc (Nat.le_refl _) _⟩
      rw [HD.out, if_neg (fun h => h2 h.2)]; subst h1; rfl
  · go_enter Tryd.func17, Tryd.ntmps17
    go_wp2_with fail
    go_ret
    refine ⟨?_, (Below.refl _ _).alloc (Nat.le_refl _) _⟩
    rw [HD.out, if_neg (fun h => h1 h.1), ← tbl_get m (by simpa using hm12)]; rfl
theorem rDays_not (p : Int) (w : World) (hp : p < 0 ∨ 1200 ≤ p) : Calls Tryd.prog 17 #[.int .i64 p] w fun e W' => e = .returned (.int .i64 0) ∧ w = W' := by
  rcases hp with h | h
  · go_enter Tryd.func17, Tryd.ntmps17
    go_wp2_with fail
    go_ret
    exact ⟨rfl, rfl⟩
  · have h0 : 0 ≤ p := by omega
    go_enter Tryd.func17, Tryd.ntmps17
    go_wp2_with fail
    go_ret
    exact ⟨rfl, rfl⟩

theorem rStart_not (p : Int) (w : World) (hp : p < 0 ∨ 1200 < p) : Calls Tryd.prog 15 #[.int .i64 p] w fun e W' => e = .returned (.int .i64 (-1)) ∧ w = W' := by
  rcases hp with h | h
  · go_enter Tryd.func15, Tryd.ntmps15
    go_wp2_with fail
    go_ret
    exact ⟨rfl, rfl⟩
  · have h0 : 0 ≤ p := by omega
    go_enter Tryd.func15, Tryd.ntmps15
    go_wp2_with fail
    go_ret
    exact ⟨rfl, rfl⟩

theorem rStart_calls (p : Nat) (hp : p ≤ 1200) (w : World) :
    Calls Tryd.prog 15 #[.int .i64 (p : Int)] w fun e W' => e = .returned (.int .i64 ((86400 * upN p : Nat) : Int)) ∧ Below w.heap.size w W' := by
  have k0 : (0 : Int) ≤ (p : Int) := by omega
  have k1 : (p : Int) ≤ 1200 := by omega
  go_enter Tryd.func15, Tryd.ntmps15
  go_wp2_with fail
  go_loopw [3, 4] (fun nv iv wr => ∃ i n : Nat, i ≤ p ∧ iv = .int .i64 i ∧ nv = .int .i64 n ∧ n ≤ 3155760000 ∧ Hid (n = 86400 * upN i) ∧ Hid (Below w.heap.size w wr)) (fun _ iv _ => p - (intOf iv).toNat)
  case atStart => exact ⟨0, 0, by omega, rfl, rfl, by omega, Lib.hid rfl, Lib.hid (Below.refl _ _)⟩
  case round =>
    obtain ⟨i, n, hi, rfl, rfl, hn, HN, HB⟩ := hrel
    by_cases hlt : i < p
    · have hd := daysN_bd i
      have hu := upN_le (i + 1) (by omega)
      have HN2 : Hid (n + 86400 * daysN i = 86400 * upN (i + 1)) := Lib.hid (by rw [HN.out]; show _ = 86400 * (upN i + daysN i); omega)
      have hb2 : n + 86400 * daysN i ≤ 3155760000 := by have := HN2.out; omega
      have D := Lib.hid (fun W => rDays_calls i (by omega) W)
      clear hu HN
      generalize daysN i = d at *
      go_wp2_with fail
      refine (D.out _).mono ?_
      rintro e w2 ⟨rfl, b2⟩
      have HB2 := Lib.hid (HB.out.trans (b2.mono HB.out.size))
      clear b2 HB
      go_wp2_with fail
      go_roundw
      case rel => exact ⟨i + 1, n + 86400 * d, by omega, by go_num, by go_num, hb2, HN2, HB2⟩
      case measure => simp [intOf]; omega
    · obtain rfl : i = p := by omega
      go_wp2_with fail
      go_ret
      exact ⟨by rw [← HN.out]; rfl, HB.out⟩
theorem rOf_not (x : Int) (w : World) (hx : x < 0 ∨ 3155760000 ≤ x) : Calls Tryd.prog 11 #[.int .i64 x] w fun e W' => e = .returned (.tuple #[.int .i64 0, .int .i64 0, .bool false]) ∧ w = W' := by
  rcases hx with h | h
  · go_enter Tryd.func11, Tryd.ntmps11
    go_wp2_with fail
    go_ret3
    exact ⟨rfl, rfl⟩
  · have h0 : 0 ≤ x := by omega
    go_enter Tryd.func11, Tryd.ntmps11
    go_wp2_with fail
    go_ret3
    exact ⟨rfl, rfl⟩

set_option maxRecDepth 100000 in
set_option maxHeartbeats 1000000 in
theorem rOf_calls (x : Int) (k0 : 0 ≤ x) (k1 : x < 3155760000) (w : World) :
    Calls Tryd.prog 11 #[.int .i64 x] w fun e W' => e = .returned (.tuple #[.int .i64 ((perN (x / 86400).toNat : Nat) : Int), .int .i64 (((dayN (x / 86400).toNat : Nat) : Int) + 1), .bool true]) ∧ Below w.heap.size w W' := by
  obtain ⟨d, hd⟩ : ∃ d, (x / 86400).toNat = d := ⟨_, rfl⟩
  have hdl : d < 36525 := by omega
  have e1 : x / 86400 = (d : Int) := by omega
  rw [hd]
  clear hd
  have Hl := Lib.hid (left_step d)
  have hs := perN_spec d hdl
  have hp := perN_lt d hdl
  generalize perN d = P at *
  generalize dayN d = E at *
  have Hs := Lib.hid hs
  have Hp := Lib.hid hp
  have Hdl := Lib.hid hdl
  have E1 := Lib.hid e1
  clear hs hp hdl e1
  go_enter Tryd.func11, Tryd.ntmps11
  go_wp2_with fail
  go_loopw [5, 6] (fun dv pv wr => ∃ i r : Nat, pv = .int .i64 i ∧ dv = .int .i64 r ∧ i < 1200 ∧ r < 36525 ∧ Hid (i ≤ P) ∧ Hid (r + upN i = d) ∧ Hid (Below w.heap.size w wr)) (fun _ pv _ => 1200 - (intOf pv).toNat)
  case atStart => exact ⟨0, d, rfl, by rw [E1.out], by omega, Hdl.out, Lib.hid (Nat.zero_le _), Lib.hid rfl, Lib.hid (Below.refl _ _)⟩
  case round =>
    obtain ⟨i, r, rfl, rfl, hi, hr, HI, HR, HB⟩ := hrel
    have hd := daysN_bd i
    have D := Lib.hid (fun W => rDays_calls i hi W)
    have Hst := Lib.hid (Hl.out i Hdl.out HI.out)
    have Hu : Hid (upN (i + 1) = upN i + daysN i) := Lib.hid rfl
    have Hlr : Hid (leftN d i = r) := Lib.hid (by have := HR.out; unfold leftN; omega)
    generalize daysN i = n at *
    go_wp2_with fail
    refine (D.out _).mono ?_
    rintro e w2 ⟨rfl, b2⟩
    have HB2 := Lib.hid (HB.out.trans (b2.mono HB.out.size))
    clear b2 HB
    by_cases hlt : n ≤ r
    · have Hi2 : Hid (i + 1 ≤ P) := Lib.hid (by have := Hst.out.1; rw [Hlr.out] at this; exact this.1 hlt)
      have Hr2 : Hid ((r - n) + upN (i + 1) = d) := Lib.hid (by rw [Hu.out]; have := HR.out; omega)
      have hi2 : i + 1 < 1200 := by have := Hi2.out; have := Hp.out; omega
      go_wp2_with fail
      refine (D.out _).mono ?_
      rintro e w3 ⟨rfl, b3⟩
      have HB3 := Lib.hid (HB2.out.trans (b3.mono HB2.out.size))
      clear b3 HB2
      go_wp2_with fail
      go_roundw
      case rel => exact ⟨i + 1, r - n, by go_num, by go_num, hi2, by omega, Hi2, Hr2, HB3⟩
      case measure => simp [intOf]; omega
    · have Hip : Hid (i = P) := Lib.hid (by
        have h1 := Hst.out.1
        rw [Hlr.out] at h1
        have h2 := HI.out
        omega)
      have Hdp : Hid (r = E) := Lib.hid (by have h1 := Hs.out.1; rw [← Hip.out] at h1; have := HR.out; omega)
      go_wp2_with fail
      go_ret3
      rw [← Hip.out, ← Hdp.out]
      exact ⟨rfl, HB2.out⟩
end Go.Proofs.YtmmlneghhjjciaaDoor
