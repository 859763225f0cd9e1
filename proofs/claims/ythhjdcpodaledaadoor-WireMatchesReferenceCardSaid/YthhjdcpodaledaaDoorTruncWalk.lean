/- The walk of WireTruncated: for all integers and every string it returns true, and nothing that was there has changed. Conditions: the integers are int64s, the table reads as the program lays it. -/
import Derived.Test.YthhjdcpodaledaaDoorRoundWalk
namespace Go.Proofs.YthhjdcpodaledaaDoor
open Go.RowKit

theorem mk_size (l : List UInt8) : (⟨l.toArray⟩ : ByteArray).size = l.length := rfl
theorem mk_extract (l : List UInt8) (j : Nat) : ((⟨l.toArray⟩ : ByteArray).extract 0 j).data.toList = l.take j := by
  rw [Lib.extract_data]; simp

theorem tr_int (n : Int) (k : Nat) (w : World) (h : Fits n) (hk : k < (putI n).length) :
    Calls Tryd.prog 15 #[.string ((⟨(putI n).toArray⟩ : ByteArray).extract 0 k), .int .i64 0] w fun e w' => e = .returned (.tuple #[.int .i64 0, .int .i64 0, .int .i64 10]) ∧ w = w' := by
  have hl := (putI_length n).2
  have hz : ((⟨(putI n).toArray⟩ : ByteArray).extract 0 k).size ≤ k := cut_size _ _
  exact int_none _ 0 w (by omega) (by omega) (by rw [mk_extract]; exact getI_none_short n h k hk)

theorem tr_str (t : List UInt8) (k : Nat) (w : World) (ht : t.length ≤ 300) (hk : k < (putS t).length) :
    Calls Tryd.prog 17 #[.string ((⟨(putS t).toArray⟩ : ByteArray).extract 0 k), .int .i64 0] w fun e w' => e = .returned (.tuple #[.string ⟨#[]⟩, .int .i64 0, .int .i64 10]) ∧ Below w.heap.size w w' := by
  have hl := (putI_length (t.length : Int)).2
  have hl2 : (putS t).length = (putI (t.length : Int)).length + t.length := by unfold putS; simp
  have hz : ((⟨(putS t).toArray⟩ : ByteArray).extract 0 k).size ≤ k := cut_size _ _
  have := str_all ((⟨(putS t).toArray⟩ : ByteArray).extract 0 k) 0 w (by omega)
  have e : strF ((⟨(putS t).toArray⟩ : ByteArray).extract 0 k).data.toList 0 = ([], 0, 10) := by
    unfold strF
    rw [if_neg (by omega), mk_extract, show (0 : Int).toNat = 0 from rfl, getS_none_short t (by omega) k hk]
  rw [e] at this
  exact this

theorem putS_length (l : List UInt8) : 1 ≤ (putS l).length ∧ (putS l).length ≤ l.length + 9 := by
  have h := putI_length (l.length : Int)
  have e : (putS l).length = (putI (l.length : Int)).length + l.length := by unfold putS; rw [List.length_append]
  omega

/-- pick of a length, as a number below it. -/
theorem pick_nat (a : Int) (n : Nat) (h : 1 ≤ n) : ∃ k : Nat, pickF a (n : Int) = (k : Int) ∧ k < n := by
  have hr := pickF_range a n (by omega)
  obtain ⟨k, hk⟩ := Int.eq_ofNat_of_zero_le hr.1
  exact ⟨k, hk, by omega⟩

theorem ret_bool {a b : Bool} (h : a = b) : Ending.returned (.bool a) = .returned (.bool b) := by rw [h]

theorem trunc_eq (n m : Int) (hn : Fits n) (hm : Fits m) : ((((⟨(putI m).toArray⟩ : ByteArray).extract 0 (putI n).length).toList == putI n) == (n == m)) = true := by
  rw [ByteArray.toList_eq, mk_extract]
  by_cases e : n = m
  · subst e; simp
  · have h1 : (n == m) = false := by simpa using e
    have h2 : ((putI m).take (putI n).length == putI n) = false := by
      rw [beq_eq_false_iff_ne]
      intro h
      refine e (putI_prefix n m hn hm ((putI m).drop (putI n).length) ?_)
      conv => lhs; rw [← List.take_append_drop (putI n).length (putI m)]
      rw [h]
    rw [h1, h2]; rfl

set_option maxRecDepth 100000 in
set_option maxHeartbeats 2000000 in
theorem trunc_walk (c d : Int) (text : ByteArray) (a : Int) (w : World) (hT : Table w) (h0 : -9223372036854775808 ≤ c) (h1 : c ≤ 9223372036854775807) (g0 : -9223372036854775808 ≤ d) (g1 : d ≤ 9223372036854775807)
    (z1 : text.size ≤ 9223372036854775807) (a0 : -9223372036854775808 ≤ a) (a1 : a ≤ 9223372036854775807) :
    Calls Tryd.prog 7 #[.int .i64 c, .int .i64 d, .string text, .int .i64 a] w fun e w' => e = .returned (.bool true) ∧ Below w.heap.size w w' := by
  obtain ⟨n1, n2⟩ := numF_range c
  obtain ⟨m1, m2⟩ := numF_range d
  have hn := Lib.hid (show ∃ n, numF c = n from ⟨_, rfl⟩)
  obtain ⟨n, hn⟩ := hn.out
  obtain ⟨m, hm⟩ : ∃ m, numF d = m := ⟨_, rfl⟩
  rw [hn] at n1 n2
  rw [hm] at m1 m2
  have Hn := Lib.hid hn
  have Hm := Lib.hid hm
  clear hn hm
  go_enter Tryd.func7, Tryd.ntmps7
  go_wp2_with fail
  refine (sane_calls _ hT).mono ?_
  rintro e w1 ⟨rfl, b1⟩
  go_wp2_with fail
  refine (number_calls c _ h0 h1).mono ?_
  rw [Hn.out]
  rintro e w2 ⟨rfl, b2⟩
  go_wp2_with fail
  refine (putInt_yes n _ (by omega) (by omega)).mono ?_
  rintro e w3 ⟨rfl, b3⟩
  go_wp2_with fail
  refine (number_calls d _ g0 g1).mono ?_
  rw [Hm.out]
  rintro e w4 ⟨rfl, b4⟩
  go_wp2_with fail
  refine (putInt_yes m _ (by omega) (by omega)).mono ?_
  rintro e w5 ⟨rfl, b5⟩
  go_wp2_with fail
  have zt : (text.extract 0 (min (text.size : Int) 200).toNat).size ≤ 200 := Nat.le_trans (cut_size _ _) (by omega)
  generalize text.extract 0 (min (text.size : Int) 200).toNat = t at zt ⊢
  refine (putString_yes t _ (by omega)).mono ?_
  rintro e w6 ⟨rfl, b6⟩
  have bz : Below w.heap.size w w6 := by
    have s1 := b1.size
    have s2 := Nat.le_trans s1 b2.size
    have s3 := Nat.le_trans s2 b3.size
    have s4 := Nat.le_trans s3 b4.size
    have s5 := Nat.le_trans s4 b5.size
    exact ((((b1.trans (b2.mono s1)).trans (b3.mono s2)).trans (b4.mono s3)).trans (b5.mono s4)).trans (b6.mono s5)
  clear b1 b2 b3 b4 b5 b6
  obtain ⟨l1, l2⟩ := putI_length n
  obtain ⟨l3, l4⟩ := putI_length m
  obtain ⟨l5, l6⟩ := putS_length t.data.toList
  have l7 : t.data.toList.length ≤ 200 := by simpa using zt
  have e1 : (((putI n).length : Int) == 0) = false := by rw [beq_eq_false_iff_ne]; omega
  have e2 : (((putS t.data.toList).length : Int) == 0) = false := by rw [beq_eq_false_iff_ne]; omega
  go_wp2_with fail
  obtain ⟨k, hk, hkl⟩ := pick_nat a (putI n).length l1
  obtain ⟨j, hj, hjl⟩ := pick_nat a (putS t.data.toList).length l5
  have Hk := Lib.hid hk
  have Hj := Lib.hid hj
  clear hk hj
  refine (pick_calls _ _ _ a0 a1 (by omega) (by omega)).mono ?_
  rw [Hk.out]
  rintro e w' ⟨rfl, rfl⟩
  go_wp2_with fail
  refine (tr_int n k _ ⟨by omega, by omega⟩ hkl).mono ?_
  rintro e w' ⟨rfl, rfl⟩
  go_wp2_with fail
  refine (pick_calls _ _ _ a0 a1 (by omega) (by omega)).mono ?_
  rw [Hj.out]
  rintro e w' ⟨rfl, rfl⟩
  go_wp2_with fail
  refine (tr_str t.data.toList j _ (by omega) hjl).mono ?_
  rintro e w7 ⟨rfl, b7⟩
  go_wp2_with fail
  all_goals
    refine (number_calls c _ h0 h1).mono ?_
    rw [Hn.out]
    rintro e w8 ⟨rfl, b8⟩
    go_wp2_with fail
    refine (number_calls d _ g0 g1).mono ?_
    rw [Hm.out]
    rintro e w9 ⟨rfl, b9⟩
    go_wp2_with fail
    go_ret
    have s7 := Nat.le_trans bz.size b7.size
    refine ⟨?_, ((bz.trans (b7.mono bz.size)).trans (b8.mono s7)).trans (b9.mono (Nat.le_trans s7 b8.size))⟩
  · exact ret_bool (trunc_eq n m ⟨by omega, by omega⟩ ⟨by omega, by omega⟩)
  · refine ret_bool ?_
    have hne : ¬ n = m := by intro e; subst e; omega
    simp [hne]
end Go.Proofs.YthhjdcpodaledaaDoor
