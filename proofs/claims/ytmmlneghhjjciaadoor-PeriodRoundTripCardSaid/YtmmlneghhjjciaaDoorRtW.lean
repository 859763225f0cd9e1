/- The walk of PeriodRoundTrip: for every two numbers and every string it returns true, and nothing that was there has changed. Condition: the table of lengths reads as the program lays it. -/
import Derived.Test.YtmmlneghhjjciaaDoorHelp
namespace Go.Proofs.YtmmlneghhjjciaaDoor
open Go.RowKit

theorem less_eq : ∀ x y : List UInt8, Op.bytesLess x y = ltB x y := by
  intro x
  induction x with
  | nil => intro y; cases y <;> rfl
  | cons a x ih =>
    intro y
    cases y with
    | nil => rfl
    | cons b y =>
      unfold Op.bytesLess ltB
      rw [ih]
      have h1 : decide (a < b) = decide (a.toNat < b.toNat) := rfl
      have h2 : (a == b) = decide (a.toNat = b.toNat) := by
        by_cases h : a = b
        · subst h; simp
        · rw [beq_eq_false_iff_ne.2 h, decide_eq_false (fun h3 => h (UInt8.toNat_inj.1 h3))]
      rw [h1, h2]

set_option maxRecDepth 100000 in
set_option maxHeartbeats 1000000 in
theorem round_walk (a b : Int) (s : ByteArray) (w : World) (hK : Konst w) (a0 : -9223372036854775808 ≤ a) (a1 : a ≤ 9223372036854775807) (b0 : -9223372036854775808 ≤ b) (b1 : b ≤ 9223372036854775807) (hs : s.size ≤ 9223372036854775807) :
    Calls Tryd.prog 6 #[.int .i64 a, .int .i64 b, .string s] w fun e w' => e = .returned (.bool true) ∧ Below w.heap.size w w' := by
  have HK := Lib.hid hK
  clear hK
  obtain ⟨p, hp, hp2⟩ := pick_nat a 1200 (by omega)
  obtain ⟨q, hq, hq2⟩ := pick_nat b 1200 (by omega)
  have Hp := Lib.hid (fun W => pick_calls a 1200 W a0 a1 (by omega) (by omega))
  have Hq := Lib.hid (fun W => pick_calls b 1200 W b0 b1 (by omega) (by omega))
  have hp' : pickF a 1200 = (p : Int) := hp
  have hq' : pickF b 1200 = (q : Int) := hq
  rw [hp'] at Hp
  rw [hq'] at Hq
  clear hp hp' hq hq' a0 a1 b0 b1
  have Dp := Lib.hid (fun W => Format_calls p hp2 W)
  have Dq := Lib.hid (fun W => Format_calls q hq2 W)
  have DP : Hid (∀ W, Calls Tryd.prog 18 #[.string ⟨(fmtN p).toArray⟩] W fun e W' => e = .returned (.tuple #[.int .i64 (p : Int), .int .i64 0]) ∧ Below W.heap.size W W') := Lib.hid (fun W => by
    have h := parV_some (parN_fmt p hp2)
    have := Parse_calls ⟨(fmtN p).toArray⟩ (by show (fmtN p).toArray.size ≤ _; simp [fmtN_length]) W
    rw [show (⟨(fmtN p).toArray⟩ : ByteArray).data.toList = fmtN p from rfl, h.1, h.2] at this
    exact this)
  have DS := Lib.hid (fun W => Parse_calls s hs W)
  have hlt : (!decide (p < q) == Op.bytesLess (fmtN p) (fmtN q)) = false := by rw [less_eq, fmt_iff p q hp2 hq2]; simp
  rcases ho : parN s.data.toList with _ | r
  · have hv := parV_none ho
    rw [hv.1, hv.2] at DS
    have D0 := Lib.hid (fun W => Format_calls 0 (by decide) W)
    clear hv ho
    generalize fmtN 0 = F0 at *
    go_enter Tryd.func6, Tryd.ntmps6
    go_wp2_with fail
    refine (sane_calls _ HK.out).mono ?_
    rintro e w1 ⟨rfl, c1⟩
    have B1 : Hld w w1 := Lib.hid c1
    clear c1
    go_wp2_with fail
    refine (Hp.out _).mono ?_
    rintro e w2 ⟨rfl, rfl⟩
    go_wp2_with fail
    refine (Hq.out _).mono ?_
    rintro e w2 ⟨rfl, rfl⟩
    go_wp2_with fail
    refine (Dp.out _).mono ?_
    rintro e w2 ⟨rfl, c2⟩
    have B2 := B1.step c2
    clear c2 B1
    go_wp2_with fail
    refine (Dq.out _).mono ?_
    rintro e w3 ⟨rfl, c3⟩
    have B3 := B2.step c3
    clear c3 B2
    go_wp2_with fail
    refine (DP.out _).mono ?_
    rintro e w4 ⟨rfl, c4⟩
    have B4 := B3.step c4
    clear c4 B3
    go_wp2_with fail
    refine (DS.out _).mono ?_
    rintro e w5 ⟨rfl, c5⟩
    have B5 := B4.step c5
    clear c5 B4
    go_wp2_with fail
    refine (D0.out _).mono ?_
    rintro e w6 ⟨rfl, c6⟩
    have B6 := B5.step c6
    clear c6 B5
    go_wp2_with fail
    go_ret
    exact ⟨rfl, Hid.out B6⟩
  · have hv := parV_some ho
    have hr := parN_some _ _ ho
    rw [hv.1, hv.2] at DS
    have D0 := Lib.hid (fun W => Format_calls r hr.1 W)
    have hse := str_eq _ s hr.2
    have hr1 := hr.1
    clear hv ho hr
    generalize (⟨(fmtN r).toArray⟩ : ByteArray) = F0 at *
    go_enter Tryd.func6, Tryd.ntmps6
    go_wp2_with fail
    refine (sane_calls _ HK.out).mono ?_
    rintro e w1 ⟨rfl, c1⟩
    have B1 : Hld w w1 := Lib.hid c1
    clear c1
    go_wp2_with fail
    refine (Hp.out _).mono ?_
    rintro e w2 ⟨rfl, rfl⟩
    go_wp2_with fail
    refine (Hq.out _).mono ?_
    rintro e w2 ⟨rfl, rfl⟩
    go_wp2_with fail
    refine (Dp.out _).mono ?_
    rintro e w2 ⟨rfl, c2⟩
    have B2 := B1.step c2
    clear c2 B1
    go_wp2_with fail
    refine (Dq.out _).mono ?_
    rintro e w3 ⟨rfl, c3⟩
    have B3 := B2.step c3
    clear c3 B2
    go_wp2_with fail
    refine (DP.out _).mono ?_
    rintro e w4 ⟨rfl, c4⟩
    have B4 := B3.step c4
    clear c4 B3
    go_wp2_with fail
    refine (DS.out _).mono ?_
    rintro e w5 ⟨rfl, c5⟩
    have B5 := B4.step c5
    clear c5 B4
    go_wp2_with fail
    refine (D0.out _).mono ?_
    rintro e w6 ⟨rfl, c6⟩
    have B6 := B5.step c6
    clear c6 B5
    go_wp2_with fail
    go_ret
    exact ⟨rfl, Hid.out B6⟩
end Go.Proofs.YtmmlneghhjjciaaDoor
