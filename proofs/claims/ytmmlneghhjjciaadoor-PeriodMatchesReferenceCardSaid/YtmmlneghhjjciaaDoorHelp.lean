/- Contracts of the laws' helpers: pick and sane. Condition of sane's: the table of lengths reads as the program lays it. -/
import Derived.Test.YtmmlneghhjjciaaDoorPar
namespace Go.Proofs.YtmmlneghhjjciaaDoor
open Go.RowKit

/-- pick, as a number. -/
def pickF (c n : Int) : Int := if c < 0 then (-(c + 1)) % n else c % n
theorem pickF_lt (c n : Int) (h : 1 ≤ n) : 0 ≤ pickF c n ∧ pickF c n < n := by
  unfold pickF
  split
  · exact ⟨Int.emod_nonneg _ (by omega), Int.emod_lt_of_pos _ (by omega)⟩
  · exact ⟨Int.emod_nonneg _ (by omega), Int.emod_lt_of_pos _ (by omega)⟩
theorem pick_calls (c n : Int) (w : World) (h0 : -9223372036854775808 ≤ c) (h1 : c ≤ 9223372036854775807) (h2 : 1 ≤ n) (h3 : n ≤ 9223372036854775807) :
    Calls Tryd.prog 9 #[.int .i64 c, .int .i64 n] w fun e w' => e = .returned (.int .i64 (pickF c n)) ∧ w = w' := by
  by_cases h : c < 0
  · have hf : pickF c n = (-(c + 1)) % n := by unfold pickF; rw [if_pos h]
    rw [hf]; clear hf
    go_enter Tryd.func9, Tryd.ntmps9
    go_wp2
    go_ret
    refine ⟨?_, rfl⟩
    have hp : (-(c + 1)) % n = -((c + 1).tmod n) := by rw [← Int.neg_tmod, Int.tmod_eq_emod_of_nonneg (by omega)]
    rw [hp]; rfl
  · have hf : pickF c n = c % n := by unfold pickF; rw [if_neg h]
    rw [hf]; clear hf
    go_enter Tryd.func9, Tryd.ntmps9
    go_wp2
    go_ret
    exact ⟨rfl, rfl⟩
theorem pick_nat (a : Int) (n : Nat) (h : 1 ≤ n) : ∃ k : Nat, pickF a (n : Int) = (k : Int) ∧ k < n := by
  have hr := pickF_lt a n (by omega)
  obtain ⟨k, hk⟩ := Int.eq_ofNat_of_zero_le hr.1
  exact ⟨k, hk, by omega⟩

/-- What a walk holds from call to call: nothing that was there has changed. -/
def Hld (w0 w : World) : Prop := Hid (Below w0.heap.size w0 w)
theorem Hld.step {w0 w w' : World} (h : Hld w0 w) (hb : Below w.heap.size w w') : Hld w0 w' := Lib.hid ((Hid.out h).trans (hb.mono (Hid.out h).size))

theorem Of_at (x : Int) (p e : Nat) (k0 : 0 ≤ x) (k1 : x < 3155760000) (h : upN p + e = (x / 86400).toNat) (he : e < daysN p) (w : World) (hK : Konst w) :
    Calls Tryd.prog 10 #[.int .i64 x] w fun r W' => r = .returned (.tuple #[.int .i64 ((p : Nat) : Int), .int .i64 (((e : Nat) : Int) + 1), .bool true]) ∧ w = W' := by
  have h2 := perN_unique (x / 86400).toNat p e (by omega) h he
  have := Of_calls x k0 k1 w hK
  rw [← h2.1, ← h2.2] at this
  exact this
theorem Format_306 (w : World) : Calls Tryd.prog 12 #[.int .i64 306] w fun r W' => r = .returned (.tuple #[.string ⟨#[50, 48, 50, 53, 45, 48, 55]⟩, .int .i64 0]) ∧ Below w.heap.size w W' := Format_calls 306 (by decide) w
theorem Parse_306 (w : World) : Calls Tryd.prog 18 #[.string ⟨#[50, 48, 50, 53, 45, 48, 55]⟩] w fun r W' => r = .returned (.tuple #[.int .i64 306, .int .i64 0]) ∧ Below w.heap.size w W' := by
  have h := parV_some (parN_fmt 306 (by decide))
  have := Parse_calls ⟨(fmtN 306).toArray⟩ (by decide) w
  rw [show (⟨(fmtN 306).toArray⟩ : ByteArray).data.toList = fmtN 306 from rfl, h.1, h.2] at this
  exact this
theorem Parse_no (w : World) : Calls Tryd.prog 18 #[.string ⟨#[50, 48, 50, 53, 45, 55]⟩] w fun r W' => r = .returned (.tuple #[.int .i64 0, .int .i64 40]) ∧ Below w.heap.size w W' := by
  have h := parV_none (parN_never [50, 48, 50, 53, 45, 55] fun p _ h => by have := congrArg List.length h; rw [fmtN_length] at this; simp at this)
  have := Parse_calls ⟨#[50, 48, 50, 53, 45, 55]⟩ (by decide) w
  rw [show (⟨#[50, 48, 50, 53, 45, 55]⟩ : ByteArray).data.toList = [50, 48, 50, 53, 45, 55] from rfl, h.1, h.2] at this
  exact this
theorem Start_12 (w : World) (hK : Konst w) : Calls Tryd.prog 14 #[.int .i64 12] w fun r W' => r = .returned (.int .i64 31622400) ∧ w = W' := Start_calls 12 (by decide) w hK
theorem Start_1200 (w : World) (hK : Konst w) : Calls Tryd.prog 14 #[.int .i64 1200] w fun r W' => r = .returned (.int .i64 3155760000) ∧ w = W' := by
  have := Start_calls 1200 (by decide) w hK
  rw [upN_1200] at this
  exact this
theorem Days_13 (w : World) (hK : Konst w) : Calls Tryd.prog 16 #[.int .i64 13] w fun r W' => r = .returned (.int .i64 28) ∧ w = W' := Days_calls 13 (by decide) w hK

set_option maxRecDepth 100000 in
set_option maxHeartbeats 1000000 in
theorem sane_calls (w : World) (hK : Konst w) : Calls Tryd.prog 8 #[] w fun e W' => e = .returned (.bool true) ∧ Below w.heap.size w W' := by
  have HK := Lib.hid hK
  clear hK
  go_enter Tryd.func8, Tryd.ntmps8
  go_wp2_with fail
  refine (Of_at 5097600 1 28 (by decide) (by decide) (by decide) (by decide) _ HK.out).mono ?_
  rintro e w' ⟨rfl, rfl⟩
  go_wp2_with fail
  refine (Of_at 5184000 2 0 (by decide) (by decide) (by decide) (by decide) _ HK.out).mono ?_
  rintro e w' ⟨rfl, rfl⟩
  go_wp2_with fail
  refine (Of_not 3155760000 _ (by decide)).mono ?_
  rintro e w' ⟨rfl, rfl⟩
  go_wp2_with fail
  refine (Format_306 _).mono ?_
  rintro e w1 ⟨rfl, b1⟩
  have a1 : Hld w w1 := Lib.hid b1
  clear b1
  go_wp2_with fail
  refine (Parse_306 _).mono ?_
  rintro e w2 ⟨rfl, b2⟩
  have a2 := a1.step b2
  clear b2 a1
  go_wp2_with fail
  refine (Parse_no _).mono ?_
  rintro e w3 ⟨rfl, b3⟩
  have a3 := a2.step b3
  have HK3 := Lib.hid (HK.out.keep (Hid.out a3))
  clear b3 a2
  go_wp2_with fail
  refine (Start_12 _ HK3.out).mono ?_
  rintro e w' ⟨rfl, rfl⟩
  go_wp2_with fail
  refine (Start_1200 _ HK3.out).mono ?_
  rintro e w' ⟨rfl, rfl⟩
  go_wp2_with fail
  refine (Days_13 _ HK3.out).mono ?_
  rintro e w' ⟨rfl, rfl⟩
  go_wp2_with fail
  refine (Start_not (-1) _ (by decide)).mono ?_
  rintro e w' ⟨rfl, rfl⟩
  go_wp2_with fail
  go_ret
  exact ⟨rfl, Hid.out a3⟩
end Go.Proofs.YtmmlneghhjjciaaDoor
