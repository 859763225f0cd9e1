/- The walk of WireRoundTrip: for every integer and all strings it returns true, and nothing that was there has changed. Conditions: the integer is an int64, the table reads as the program lays it. -/
import Derived.Test.YthhjdcpodaledaaDoorSane
namespace Go.Proofs.YthhjdcpodaledaaDoor
open Go.RowKit

theorem app_list (a b : ByteArray) : (a ++ b).data.toList = a.data.toList ++ b.data.toList := by
  rw [ByteArray.data_append]; simp
theorem app_size (a b : ByteArray) : (a ++ b).size = a.size + b.size := ByteArray.size_append
theorem mk_eta (t : ByteArray) : (⟨t.data.toList.toArray⟩ : ByteArray) = t := by
  apply ByteArray.ext; simp

theorem rt_int (p q : ByteArray) (n : Int) (w : World) (hp : p.size ≤ 300) (hq : q.size ≤ 300) (h1 : -4611686018427387903 ≤ n) (h2 : n ≤ 4611686018427387903) :
    Calls Tryd.prog 15 #[.string (p ++ ⟨(putI n).toArray⟩ ++ q), .int .i64 (p.size : Int)] w fun e w' => e = .returned (.tuple #[.int .i64 n, .int .i64 ((p.size : Int) + ((putI n).length : Int)), .int .i64 0]) ∧ w = w' := by
  have hl := putI_length n
  have hsz : (p ++ ⟨(putI n).toArray⟩ ++ q).size = p.size + (putI n).length + q.size := by
    rw [app_size, app_size]; rfl
  have hg : getI (p ++ ⟨(putI n).toArray⟩ ++ q).data.toList p.size = some (n, p.size + (putI n).length) := by
    rw [app_list, app_list]
    have := getI_putI n p.data.toList q.data.toList ⟨h1, h2⟩
    simpa using this
  have := int_some _ p.size w (by rw [hsz]; omega) (by rw [hsz]; omega) n _ hg
  simpa using this

theorem rt_str (p q t : ByteArray) (w : World) (hp : p.size ≤ 300) (hq : q.size ≤ 300) (ht : t.size ≤ 300) :
    Calls Tryd.prog 17 #[.string (p ++ ⟨(putS t.data.toList).toArray⟩ ++ q), .int .i64 (p.size : Int)] w fun e w' => e = .returned (.tuple #[.string t, .int .i64 ((p.size : Int) + ((putS t.data.toList).length : Int)), .int .i64 0]) ∧ Below w.heap.size w w' := by
  have hl := putI_length (t.data.toList.length : Int)
  have hl2 : (putS t.data.toList).length = (putI (t.data.toList.length : Int)).length + t.size := by unfold putS; simp
  have hsz : (p ++ ⟨(putS t.data.toList).toArray⟩ ++ q).size = p.size + (putS t.data.toList).length + q.size := by
    rw [app_size, app_size]; rfl
  have hg : getS (p ++ ⟨(putS t.data.toList).toArray⟩ ++ q).data.toList p.size = some (t.data.toList, p.size + (putS t.data.toList).length) := by
    rw [app_list, app_list]
    have := getS_putS t.data.toList p.data.toList q.data.toList (by simp; omega)
    simpa using this
  have := string_some _ p.size w (by rw [hsz]; omega) (by rw [hsz]; omega) _ _ hg
  rw [mk_eta] at this
  simpa using this

theorem cut_size (s : ByteArray) (k : Nat) : (s.extract 0 k).size ≤ k := by
  rw [Lib.size_eq, Lib.extract_data, List.length_take]; omega

set_option maxRecDepth 100000 in
set_option maxHeartbeats 2000000 in
theorem round_walk (c : Int) (text p0 q0 : ByteArray) (w : World) (hT : Table w) (h0 : -9223372036854775808 ≤ c) (h1 : c ≤ 9223372036854775807)
    (z1 : text.size ≤ 9223372036854775807) (z2 : p0.size ≤ 9223372036854775807) (z3 : q0.size ≤ 9223372036854775807) :
    Calls Tryd.prog 4 #[.int .i64 c, .string text, .agg #[.string p0, .string q0]] w fun e w' => e = .returned (.bool true) ∧ Below w.heap.size w w' := by
  go_enter Tryd.func4, Tryd.ntmps4
  go_wp2_with fail
  have bA : Below w.heap.size w (w.alloc (.cells #[.string p0, .string q0] 36)) := (Below.refl _ _).alloc (Nat.le_refl _) _
  refine (sane_calls _ (hT.below bA hT.lt)).mono ?_
  rintro e w1 ⟨rfl, b1⟩
  go_wp2_with fail
  refine (number_calls c _ h0 h1).mono ?_
  rintro e w2 ⟨rfl, b2⟩
  obtain ⟨n1, n2⟩ := numF_range c
  generalize numF c = n at n1 n2 ⊢
  have bB : Below (w.heap.size + 1) (w.alloc (.cells #[.string p0, .string q0] 36)) w2 := by
    have := b1.size
    simp only [World.size_alloc] at b1 this
    exact b1.trans (b2.mono this)
  have c0 : w2.cell? ⟨w.heap.size, 0, none⟩ = some (.string p0) := by
    rw [bB.cell (by simp), World.cell?_alloc_new]; rfl
  have c1 : w2.cell? ⟨w.heap.size, 1, none⟩ = some (.string q0) := by
    rw [bB.cell (by simp), World.cell?_alloc_new]; rfl
  have bC : Below w.heap.size w w2 := bA.trans (bB.mono (by omega))
  clear bA b1 b2 bB
  go_wp2_with fail
  have zp : (p0.extract 0 (min (p0.size : Int) 200).toNat).size ≤ 200 := Nat.le_trans (cut_size _ _) (by omega)
  have zq : (q0.extract 0 (min (q0.size : Int) 200).toNat).size ≤ 200 := Nat.le_trans (cut_size _ _) (by omega)
  have zt : (text.extract 0 (min (text.size : Int) 200).toNat).size ≤ 200 := Nat.le_trans (cut_size _ _) (by omega)
  generalize p0.extract 0 (min (p0.size : Int) 200).toNat = p at zp ⊢
  generalize q0.extract 0 (min (q0.size : Int) 200).toNat = q at zq ⊢
  generalize text.extract 0 (min (text.size : Int) 200).toNat = t at zt ⊢
  clear c0 c1 z1 z2 z3
  refine (putInt_yes n _ (by omega) (by omega)).mono ?_
  rintro e w3 ⟨rfl, b3⟩
  go_wp2_with fail
  refine (putString_yes t _ (by omega)).mono ?_
  rintro e w4 ⟨rfl, b4⟩
  have hl1 := (putI_length n).2
  have hl2 : (putS t.data.toList).length ≤ 209 := by
    have := (putI_length (t.data.toList.length : Int)).2
    unfold putS; simp; simp at this; omega
  go_wp2_with fail
  refine (rt_int p q n _ (by omega) (by omega) (by omega) (by omega)).mono ?_
  rintro e w' ⟨rfl, rfl⟩
  go_wp2_with fail
  refine (rt_str p q t _ (by omega) (by omega) (by omega)).mono ?_
  rintro e w5 ⟨rfl, b5⟩
  go_wp2_with fail
  go_ret
  refine ⟨?_, ((bC.trans (b3.mono bC.size)).trans (b4.mono (Nat.le_trans bC.size b3.size))).trans (b5.mono (Nat.le_trans (Nat.le_trans bC.size b3.size) b4.size))⟩
  rfl
end Go.Proofs.YthhjdcpodaledaaDoor
