/- The walk of DigestSumMatchesReference: for all strings it returns true, and nothing that was there has changed. Condition: the table of constants reads as the program lays it. -/
import Derived.Test.YtinioifhbafngaaDoorSane2
import Derived.Test.YtinioifhbafngaaDoorFew
namespace Go.Proofs.YtinioifhbafngaaDoor
open Go.RowKit

theorem cut_size (s : ByteArray) (k : Nat) : (s.extract 0 k).size ≤ k := by
  rw [Lib.size_eq, Lib.extract_data, List.length_take]; omega

set_option maxRecDepth 100000 in
set_option maxHeartbeats 2000000 in
theorem mat_walk (s t : ByteArray) (w : World) (hK : Konst w) (hs : s.size ≤ 9223372036854775807) (ht : t.size ≤ 9223372036854775807) :
    Calls Tryd.prog 3 #[.string s, .string t] w fun e W' => e = .returned (.bool true) ∧ Below w.heap.size w W' := by
  have HK := Lib.hid hK
  clear hK
  obtain ⟨N, hN⟩ : ∃ N : Nat, min (s.size : Int) 500 = (N : Int) := ⟨min s.size 500, by omega⟩
  obtain ⟨M, hM⟩ : ∃ M : Nat, min (t.size : Int) 500 = (M : Int) := ⟨min t.size 500, by omega⟩
  have hN1 : N ≤ s.size := by omega
  have hN2 : N ≤ 500 := by omega
  have hM1 : M ≤ t.size := by omega
  have hM2 : M ≤ 500 := by omega
  have hminN : ∀ ts ty W, (Builtin.min_ ts ty #[.int .i64 (s.size : Int), .int .i64 500]).run Tryd.prog W = .ok (.int .i64 (N : Int)) W := fun ts ty W => by rw [run_min2, hN]
  have hminM : ∀ ts ty W, (Builtin.min_ ts ty #[.int .i64 (t.size : Int), .int .i64 500]).run Tryd.prog W = .ok (.int .i64 (M : Int)) W := fun ts ty W => by rw [run_min2, hM]
  have hz1 := Lib.hid (cut_size s N)
  have hz2 := Lib.hid (cut_size t M)
  clear hN hM
  go_enter Tryd.func3, Tryd.ntmps3
  go_wp2_with fail
  refine (sane_calls _ HK.out).mono ?_
  rintro e w1 ⟨rfl, b1⟩
  have a1 := (Hld.refl w).step b1
  have k1 : (N : Int) ≤ (s.size : Int) := by omega
  have k2 : (M : Int) ≤ (t.size : Int) := by omega
  go_wp2_with fail
  have hz1' := hz1.out
  have hz2' := hz2.out
  generalize s.extract 0 N = x at *
  generalize t.extract 0 M = y at *
  refine (Sum_calls x _ (a1.konst HK.out) (by omega)).mono ?_
  rintro e w2 ⟨rfl, b2⟩
  have a2 := a1.step b2
  go_wp2_with fail
  refine (refSum_calls x _ (by omega)).mono ?_
  rintro e w3 ⟨rfl, b3⟩
  have a3 := a2.step b3
  go_wp2_with fail
  refine (Leaf_calls y _ (a3.konst HK.out) (by omega)).mono ?_
  rintro e w4 ⟨rfl, b4⟩
  have a4 := a3.step b4
  go_wp2_with fail
  refine (refLeaf_calls y _ (by omega)).mono ?_
  rintro e w5 ⟨rfl, b5⟩
  have a5 := a4.step b5
  go_wp2_with fail
  refine (Node_calls x y _ (a5.konst HK.out) (by omega) (by omega)).mono ?_
  rintro e w6 ⟨rfl, b6⟩
  have a6 := a5.step b6
  go_wp2_with fail
  refine (refNode_calls x y _ (by omega)).mono ?_
  rintro e w7 ⟨rfl, b7⟩
  have a7 := a6.step b7
  go_wp2_with fail
  refine (Chain_calls y x _ (a7.konst HK.out) (by omega) (by omega)).mono ?_
  rintro e w8 ⟨rfl, b8⟩
  have a8 := a7.step b8
  go_wp2_with fail
  refine (refChain_calls y x _ (by omega)).mono ?_
  rintro e w9 ⟨rfl, b9⟩
  have a9 := a8.step b9
  go_wp2_with fail
  go_ret
  exact ⟨rfl, Hid.out a9⟩
end Go.Proofs.YtinioifhbafngaaDoor
