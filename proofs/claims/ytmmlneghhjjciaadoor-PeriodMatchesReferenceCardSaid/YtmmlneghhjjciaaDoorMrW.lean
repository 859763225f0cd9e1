/- The walk of PeriodMatchesReference: for every two numbers and every string it returns true, and nothing that was there has changed. Condition: the table of lengths reads as the program lays it. -/
import Derived.Test.YtmmlneghhjjciaaDoorHelp
namespace Go.Proofs.YtmmlneghhjjciaaDoor
open Go.RowKit

/-! ### For every number: what both answer -/
def ofV (x : Int) : Value := if 0 ≤ x ∧ x < 3155760000 then .tuple #[.int .i64 ((perN (x / 86400).toNat : Nat) : Int), .int .i64 (((dayN (x / 86400).toNat : Nat) : Int) + 1), .bool true] else .tuple #[.int .i64 0, .int .i64 0, .bool false]
def startV (p : Int) : Int := if 0 ≤ p ∧ p ≤ 1200 then ((86400 * upN p.toNat : Nat) : Int) else -1
def daysV (p : Int) : Int := if 0 ≤ p ∧ p < 1200 then ((daysN p.toNat : Nat) : Int) else 0
def fmtV (p : Int) : List UInt8 := if 0 ≤ p ∧ p < 1200 then fmtN p.toNat else []
def fmtE (p : Int) : Int := if 0 ≤ p ∧ p < 1200 then 0 else 40

theorem Of_any (x : Int) (w : World) (hK : Konst w) : Calls Tryd.prog 10 #[.int .i64 x] w fun e W' => e = .returned (ofV x) ∧ w = W' := by
  unfold ofV
  split
  next h => exact Of_calls x h.1 h.2 w hK
  next h => exact Of_not x w (by omega)
theorem rOf_any (x : Int) (w : World) : Calls Tryd.prog 11 #[.int .i64 x] w fun e W' => e = .returned (ofV x) ∧ Below w.heap.size w W' := by
  unfold ofV
  split
  next h => exact rOf_calls x h.1 h.2 w
  next h => exact (rOf_not x w (by omega)).mono fun e W' h => ⟨h.1, h.2 ▸ Below.refl _ _⟩
theorem Start_any (p : Int) (w : World) (hK : Konst w) : Calls Tryd.prog 14 #[.int .i64 p] w fun e W' => e = .returned (.int .i64 (startV p)) ∧ w = W' := by
  unfold startV
  split
  next h =>
    obtain ⟨n, rfl⟩ := Int.eq_ofNat_of_zero_le h.1
    exact Start_calls n (by omega) w hK
  next h => exact Start_not p w (by omega)
theorem rStart_any (p : Int) (w : World) : Calls Tryd.prog 15 #[.int .i64 p] w fun e W' => e = .returned (.int .i64 (startV p)) ∧ Below w.heap.size w W' := by
  unfold startV
  split
  next h =>
    obtain ⟨n, rfl⟩ := Int.eq_ofNat_of_zero_le h.1
    exact rStart_calls n (by omega) w
  next h => exact (rStart_not p w (by omega)).mono fun e W' h => ⟨h.1, h.2 ▸ Below.refl _ _⟩
theorem Days_any (p : Int) (w : World) (hK : Konst w) : Calls Tryd.prog 16 #[.int .i64 p] w fun e W' => e = .returned (.int .i64 (daysV p)) ∧ w = W' := by
  unfold daysV
  split
  next h =>
    obtain ⟨n, rfl⟩ := Int.eq_ofNat_of_zero_le h.1
    exact Days_calls n (by omega) w hK
  next h => exact Days_not p w (by omega)
theorem rDays_any (p : Int) (w : World) : Calls Tryd.prog 17 #[.int .i64 p] w fun e W' => e = .returned (.int .i64 (daysV p)) ∧ Below w.heap.size w W' := by
  unfold daysV
  split
  next h =>
    obtain ⟨n, rfl⟩ := Int.eq_ofNat_of_zero_le h.1
    exact rDays_calls n (by omega) w
  next h => exact (rDays_not p w (by omega)).mono fun e W' h => ⟨h.1, h.2 ▸ Below.refl _ _⟩
theorem Format_any (p : Int) (w : World) : Calls Tryd.prog 12 #[.int .i64 p] w fun e W' => e = .returned (.tuple #[.string ⟨(fmtV p).toArray⟩, .int .i64 (fmtE p)]) ∧ Below w.heap.size w W' := by
  unfold fmtV fmtE
  by_cases h : 0 ≤ p ∧ p < 1200
  · rw [if_pos h, if_pos h]
    obtain ⟨n, rfl⟩ := Int.eq_ofNat_of_zero_le h.1
    exact Format_calls n (by omega) w
  · rw [if_neg h, if_neg h]
    exact (Format_not p w (by omega)).mono fun e W' h => ⟨h.1, h.2 ▸ Below.refl _ _⟩
theorem rFormat_any (p : Int) (w : World) : Calls Tryd.prog 13 #[.int .i64 p] w fun e W' => e = .returned (.tuple #[.string ⟨(fmtV p).toArray⟩, .int .i64 (fmtE p)]) ∧ Below w.heap.size w W' := by
  unfold fmtV fmtE
  by_cases h : 0 ≤ p ∧ p < 1200
  · rw [if_pos h, if_pos h]
    obtain ⟨n, rfl⟩ := Int.eq_ofNat_of_zero_le h.1
    exact rFormat_calls n (by omega) w
  · rw [if_neg h, if_neg h]
    exact (rFormat_not p w (by omega)).mono fun e W' h => ⟨h.1, h.2 ▸ Below.refl _ _⟩
/-- Of's answer has three parts. -/
theorem ofV_parts (x : Int) : ∃ (i j : Int) (b : Bool), ofV x = .tuple #[.int .i64 i, .int .i64 j, .bool b] := by
  unfold ofV
  split
  · exact ⟨_, _, _, rfl⟩
  · exact ⟨_, _, _, rfl⟩

/-- A block of two numbers; the table; nothing that was there has changed. -/
def Two (w0 w : World) (B : Nat) (x y : Int) : Prop := (∀ i : Nat, i < 2 → w.cell? ⟨B, i, none⟩ = some (.int .i64 (if i = 0 then x else y))) ∧ Konst w ∧ Below w0.heap.size w0 w
theorem Two.step {w0 w w' : World} {B : Nat} {x y : Int} (h : Two w0 w B x y) (hb : Below w.heap.size w w') : Two w0 w' B x y :=
  ⟨fun i hi => (hb.cell (p := ⟨B, i, none⟩) (World.block_lt_of_cell? w _ (h.1 i hi))).trans (h.1 i hi), h.2.1.keep hb, h.2.2.trans (hb.mono h.2.2.size)⟩
theorem Two.make {w0 w : World} (x y : Int) (hK : Konst w) (hb : Below w0.heap.size w0 w) : Two w0 (w.alloc (.cells #[.int .i64 x, .int .i64 y] 3)) w.heap.size x y := by
  have b1 : Below w.heap.size w (w.alloc (.cells #[.int .i64 x, .int .i64 y] 3)) := (Below.refl _ _).alloc (Nat.le_refl _) _
  refine ⟨fun i hi => ?_, hK.keep b1, hb.trans (b1.mono hb.size)⟩
  rw [World.cell?_alloc_new]
  rcases (show i = 0 ∨ i = 1 by omega) with rfl | rfl <;> rfl

set_option maxRecDepth 100000 in
set_option maxHeartbeats 4000000 in
theorem match_walk (a b : Int) (s : ByteArray) (w : World) (hK : Konst w) (a0 : -9223372036854775808 ≤ a) (a1 : a ≤ 9223372036854775807) (b0 : -9223372036854775808 ≤ b) (b1 : b ≤ 9223372036854775807) (hs : s.size ≤ 9223372036854775807) :
    Calls Tryd.prog 3 #[.int .i64 a, .int .i64 b, .string s] w fun e w' => e = .returned (.bool true) ∧ Below w.heap.size w w' := by
  have HK := Lib.hid hK
  clear hK
  have Hp := Lib.hid (fun W => pick_calls a 3155760003 W a0 a1 (by omega) (by omega))
  have Hq := Lib.hid (fun W => pick_calls b 1203 W b0 b1 (by omega) (by omega))
  clear a0 a1 b0 b1
  generalize pickF a 3155760003 = x at *
  generalize pickF b 1203 = y at *
  have DS := Lib.hid (fun W => Parse_calls s hs W)
  have RS := Lib.hid (fun W => rParse_calls s W)
  generalize parV s.data.toList = V at *
  generalize parE s.data.toList = R at *
  go_enter Tryd.func3, Tryd.ntmps3
  go_wp2_with fail
  refine (sane_calls _ HK.out).mono ?_
  rintro e w1 ⟨rfl, c1⟩
  have B1 : Hld w w1 := Lib.hid c1
  have K1 := Lib.hid (HK.out.keep c1)
  clear c1
  go_wp2_with fail
  refine (Hp.out _).mono ?_
  rintro e w2 ⟨rfl, rfl⟩
  go_wp2_with fail
  have T := Lib.hid (Two.make a x K1.out (Hid.out B1))
  generalize w1.alloc (.cells #[.int .i64 a, .int .i64 x] 3) = w2 at *
  go_loopw [32] (fun iv wr => ∃ i : Nat, i ≤ 2 ∧ iv = .int .i64 (i : Int) ∧ Hid (Two w wr w1.heap.size a x)) (fun iv _ => 2 - (intOf iv).toNat)
  case atStart => exact ⟨0, by omega, rfl, T⟩
  case round =>
    clear T
    obtain ⟨i, hi, rfl, HR⟩ := hrel
    by_cases hlt : i < 2
    · have hc := HR.out.1 i hlt
      have KR := Lib.hid HR.out.2.1
      generalize (if i = 0 then a else x) = z at *
      have D1 := Lib.hid (fun W h => Of_any z W h)
      have D2 := Lib.hid (fun W => rOf_any z W)
      obtain ⟨o1, o2, o3, ho⟩ := ofV_parts z
      rw [ho] at D1 D2
      clear ho
      go_wp2_with fail
      refine (D1.out _ KR.out).mono ?_
      rintro e w3 ⟨rfl, rfl⟩
      go_wp2_with fail
      refine (D2.out _).mono ?_
      rintro e w4 ⟨rfl, c4⟩
      have HR2 := Lib.hid (HR.out.step c4)
      clear c4 HR hc
      go_wp2_with fail
      exact ⟨⟨i + 1, by omega, by go_num, HR2⟩, by simp [intOf]; omega⟩
    · obtain rfl : i = 2 := by omega
      rw [show ((2 : Nat) : Int) = 2 from rfl]
      have K3 := Lib.hid HR.out.2.1
      have B3 : Hld w wr := Lib.hid HR.out.2.2
      clear HR hi hlt
      go_wp2_with fail
      refine (Hq.out _).mono ?_
      rintro e w3 ⟨rfl, rfl⟩
      go_wp2_with fail
      have T := Lib.hid (Two.make b y K3.out (Hid.out B3))
      generalize wr.alloc (.cells #[.int .i64 b, .int .i64 y] 3) = w3 at *
      go_loopw [67] (fun iv wq => ∃ i : Nat, i ≤ 2 ∧ iv = .int .i64 (i : Int) ∧ Hid (Two w wq wr.heap.size b y)) (fun iv _ => 2 - (intOf iv).toNat)
      case atStart => exact ⟨0, by omega, rfl, T⟩
      case round =>
        clear T
        obtain ⟨i, hi, rfl, HR⟩ := hrel
        by_cases hlt : i < 2
        · have hc := HR.out.1 i hlt
          generalize (if i = 0 then b else y) = z at *
          have D1 := Lib.hid (fun W => Format_any z W)
          have D2 := Lib.hid (fun W => rFormat_any z W)
          have D3 := Lib.hid (fun W h => Start_any z W h)
          have D4 := Lib.hid (fun W => rStart_any z W)
          have D5 := Lib.hid (fun W h => Days_any z W h)
          have D6 := Lib.hid (fun W => rDays_any z W)
          generalize (⟨(fmtV z).toArray⟩ : ByteArray) = f at *
          generalize fmtE z = g at *
          generalize startV z = st at *
          generalize daysV z = dy at *
          have hbe : (f.toList == f.toList) = true := by simp
          go_wp2_with fail
          refine (D1.out _).mono ?_
          rintro e w4 ⟨rfl, c4⟩
          have HR2 := Lib.hid (HR.out.step c4)
          clear c4 HR hc
          go_wp2_with fail
          refine (D2.out _).mono ?_
          rintro e w5 ⟨rfl, c5⟩
          have HR3 := Lib.hid (HR2.out.step c5)
          have KR3 := Lib.hid HR3.out.2.1
          clear c5 HR2
          go_wp2_with fail
          refine (D3.out _ KR3.out).mono ?_
          rintro e w6 ⟨rfl, rfl⟩
          go_wp2_with fail
          refine (D4.out _).mono ?_
          rintro e w6 ⟨rfl, c6⟩
          have HR4 := Lib.hid (HR3.out.step c6)
          have KR4 := Lib.hid HR4.out.2.1
          clear c6 HR3 KR3
          go_wp2_with fail
          refine (D5.out _ KR4.out).mono ?_
          rintro e w7 ⟨rfl, rfl⟩
          go_wp2_with fail
          refine (D6.out _).mono ?_
          rintro e w7 ⟨rfl, c7⟩
          have HR5 := Lib.hid (HR4.out.step c7)
          clear c7 HR4 KR4
          go_wp2_with fail
          exact ⟨⟨i + 1, by omega, by go_num, HR5⟩, by simp [intOf]; omega⟩
        · obtain rfl : i = 2 := by omega
          have B4 : Hld w wr := Lib.hid HR.out.2.2
          clear HR hi hlt
          go_wp2_with fail
          refine (DS.out _).mono ?_
          rintro e w4 ⟨rfl, c4⟩
          have B5 := B4.step c4
          clear c4 B4
          go_wp2_with fail
          refine (RS.out _).mono ?_
          rintro e w5 ⟨rfl, c5⟩
          have B6 := B5.step c5
          clear c5 B5
          go_wp2_with fail
          go_ret
          exact ⟨rfl, Hid.out B6⟩
end Go.Proofs.YtmmlneghhjjciaaDoor
