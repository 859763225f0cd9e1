/- What the parts of an apportionment promise. -/
import Derived.Test.YtediphiebamffaaHelp
namespace Go.Proofs.Ytediphiebamffaa
open Go.RowKit

theorem some_set (t : Int) (l : List Int) (h : apOk t l) : ∃ S, Init (rN t l) l.length S ∧ size l.length S = lN t l ∧ ∀ i, i < l.length → pN t l i = part3 t.toNat (wN l) l.length S i := by
  obtain ⟨S, h1, h2⟩ := exists_init (rN t l) l.length (lN t l) (left3_le _ _ _ h.2.2.1)
  exact ⟨S, h1, h2, fun i hi => (part_rank t.toNat (wN l) l.length S h1 h2 i hi).symm⟩
theorem p_sum (t : Int) (l : List Int) (h : apOk t l) : sumTo (pN t l) l.length = t.toNat := by
  obtain ⟨S, h1, h2, h3⟩ := some_set t l h
  rw [sumTo_congr _ _ _ h3]
  exact parts_sum t.toNat (wN l) l.length S h.2.2.1 h2
theorem p_quota (t : Int) (l : List Int) (h : apOk t l) (i : Nat) (hi : i < l.length) : pN t l i = qN t l i ∨ (pN t l i = qN t l i + 1 ∧ 1 ≤ rN t l i) := by
  obtain ⟨S, h1, h2, h3⟩ := some_set t l h
  rw [h3 i hi]
  unfold part3
  by_cases hS : S i = true
  · rw [if_pos hS]
    exact Or.inr ⟨rfl, part_pos t.toNat (wN l) l.length S h.2.2.1 h1 h2 i hi hS⟩
  · rw [if_neg hS]; exact Or.inl rfl
theorem p_zero (t : Int) (l : List Int) (h : apOk t l) (i : Nat) (hi : i < l.length) (h0 : wN l i = 0) : pN t l i = 0 := by
  obtain ⟨S, h1, h2, h3⟩ := some_set t l h
  rw [h3 i hi]
  exact part_zero t.toNat (wN l) l.length S h.2.2.1 h1 h2 i hi h0
theorem p_mono (t : Int) (l : List Int) (h : apOk t l) (i j : Nat) (hi : i < l.length) (hj : j < l.length) (h0 : wN l j < wN l i) : pN t l j ≤ pN t l i := by
  obtain ⟨S, h1, h2, h3⟩ := some_set t l h
  rw [h3 i hi, h3 j hj]
  exact part_mono t.toNat (wN l) l.length S h1 h2 i j hi hj h0
theorem p_equal (t : Int) (l : List Int) (h : apOk t l) (i j : Nat) (hi : i < l.length) (hj : j < l.length) (hji : j < i) (h0 : wN l i = wN l j) : pN t l j = pN t l i ∨ pN t l j = pN t l i + 1 := by
  obtain ⟨S, h1, h2, h3⟩ := some_set t l h
  rw [h3 i hi, h3 j hj]
  exact part_equal t.toNat (wN l) l.length S h1 i j hi hj hji h0
theorem apL_get (t : Int) (l : List Int) (i : Nat) (hi : i < l.length) : (apL t l).getD i 0 = ((pN t l i : Nat) : Int) := listN_get _ _ _ hi
theorem wt_nonneg (l : List Int) : ∀ x ∈ wtL l, 0 ≤ x := fun x hx => (wtL_mem l x hx).1
theorem wN_wt (l : List Int) (i : Nat) : wN (wtL l) i ≤ 10000000000000 := by
  unfold wN
  by_cases h : i < (wtL l).length
  · have := wtL_mem l ((wtL l).getD i 0) (by rw [List.getD_eq_getElem?_getD, List.getElem?_eq_getElem h]; exact List.getElem_mem _)
    omega
  · rw [List.getD_eq_getElem?_getD, List.getElem?_eq_none (by omega)]; exact Nat.zero_le _
theorem sumW_wt (l : List Int) : sumW (wtL l) ≤ 400000000000000 := by
  unfold sumW
  have h1 := sumTo_le (wN (wtL l)) (fun _ => 10000000000000) (wtL l).length (fun i _ => wN_wt l i)
  rw [sumTo_const] at h1
  have h2 : (wtL l).length ≤ 40 := by rw [wtL_length]; omega
  have h3 := Nat.mul_le_mul_left 10000000000000 h2
  omega
theorem ok_wt (t : Int) (l : List Int) (h0 : 0 ≤ t) (h1 : t ≤ 1000000000000000) : apOk t (wtL l) ↔ 1 ≤ sumW (wtL l) := by
  have h2 := sumW_wt l
  exact ⟨fun h => h.2.2.1, fun h => ⟨⟨h0, h1⟩, wt_nonneg l, h, by omega⟩⟩
theorem sumTo_part_le (f : Nat → Nat) (k n : Nat) (h : k < n) : sumTo f k + f k ≤ sumTo f n := sumTo_mono f (k + 1) n h
end Go.Proofs.Ytediphiebamffaa
