/- Scaling all weights, and a weight of 0 more: what Apportion's list of parts does. -/
import Derived.Test.YtediphiebamffaaFacts
namespace Go.Proofs.Ytediphiebamffaa
open Go.RowKit

/-! ### All weights times a number -/
def scL (c : Nat) (l : List Int) : List Int := listN l.length fun i => ((c * wN l i : Nat) : Int)
theorem scL_length (c : Nat) (l : List Int) : (scL c l).length = l.length := listN_length _ _
theorem wN_out (l : List Int) (i : Nat) (h : l.length ≤ i) : wN l i = 0 := by
  unfold wN; rw [List.getD_eq_getElem?_getD, List.getElem?_eq_none h]; rfl
theorem wN_sc (c : Nat) (l : List Int) : wN (scL c l) = fun i => c * wN l i := by
  funext i
  by_cases h : i < l.length
  · unfold wN
    show ((scL c l).getD i 0).toNat = _
    unfold scL
    rw [listN_get _ _ i h]
    rfl
  · rw [wN_out _ i (by rw [scL_length]; omega), wN_out l i (by omega)]; rfl
theorem sumW_sc (c : Nat) (l : List Int) : sumW (scL c l) = c * sumW l := by
  unfold sumW
  rw [wN_sc, scL_length, sumTo_mul]
theorem sc_nonneg (c : Nat) (l : List Int) : ∀ x ∈ scL c l, 0 ≤ x := by
  intro x hx
  unfold scL listN at hx
  obtain ⟨i, _, rfl⟩ := List.mem_map.1 hx
  omega
theorem le_scaled (c n : Nat) (hc : 1 ≤ c) : n ≤ c * n := Nat.le_mul_of_pos_left n hc
theorem apOk_sc (t : Int) (c : Nat) (l : List Int) (hc : 1 ≤ c) (h : c * sumW l ≤ 1000000000000000) (h0 : ∀ x ∈ l, 0 ≤ x) : apOk t (scL c l) ↔ apOk t l := by
  have hle := le_scaled c (sumW l) hc
  constructor
  · rintro ⟨h1, _, h3, _⟩
    rw [sumW_sc] at h3
    refine ⟨h1, h0, ?_, by omega⟩
    rcases Nat.eq_zero_or_pos (sumW l) with e | e
    · rw [e] at h3; omega
    · exact e
  · rintro ⟨h1, _, h3, _⟩
    exact ⟨h1, sc_nonneg c l, by rw [sumW_sc]; omega, by rw [sumW_sc]; exact h⟩
theorem apL_sc (t : Int) (c : Nat) (l : List Int) (hc : 1 ≤ c) : apL t (scL c l) = apL t l := by
  unfold apL
  rw [scL_length]
  refine listN_congr _ _ _ fun i _ => ?_
  have h := partOf_scaled t.toNat c l.length (wN l) hc i
  unfold pN qN rN lN
  unfold sumW
  rw [wN_sc, scL_length]
  exact congrArg Int.ofNat h

/-! ### A weight of 0 more -/
def insL (a : Nat) (l : List Int) : List Int := l.take a ++ [0] ++ l.drop a
theorem insL_length (a : Nat) (l : List Int) (ha : a ≤ l.length) : (insL a l).length = l.length + 1 := by
  unfold insL
  rw [List.length_append, List.length_append, List.length_take, List.length_drop]
  show min a l.length + 1 + (l.length - a) = _
  omega
theorem insL_get? (a : Nat) (l : List Int) (ha : a ≤ l.length) (i : Nat) : (insL a l)[i]? = if i < a then l[i]? else if i = a then some 0 else l[i - 1]? := by
  unfold insL
  rw [List.getElem?_append, List.getElem?_append, List.length_append, List.length_take, List.getElem?_take, List.getElem?_drop]
  have hm : min a l.length = a := by omega
  rw [hm]
  show (if i < a + 1 then _ else _) = _
  by_cases h1 : i < a
  · rw [if_pos (by omega), if_pos h1, if_pos h1, if_pos h1]
  · rw [if_neg h1, if_neg h1]
    by_cases h2 : i = a
    · subst h2
      rw [if_pos (by omega), if_pos rfl, Nat.sub_self]; rfl
    · rw [if_neg (by omega), if_neg h2]
      congr 1
      show a + (i - (a + 1)) = i - 1
      omega
theorem wN_get? (l : List Int) (i : Nat) : wN l i = (l[i]?.getD 0).toNat := by unfold wN; rw [List.getD_eq_getElem?_getD]
theorem ins0_insL (a : Nat) (l : List Int) (ha : a ≤ l.length) : Ins0 (wN l) (wN (insL a l)) a := by
  constructor
  · rw [wN_get?, insL_get? a l ha, if_neg (by omega), if_pos rfl]; rfl
  · intro i
    rw [wN_get?, wN_get?, insL_get? a l ha]
    unfold sh
    by_cases h : i < a
    · rw [if_pos h, if_pos h]
    · rw [if_neg h, if_neg (by omega), if_neg (by omega), Nat.add_sub_cancel]
theorem sumW_ins (a : Nat) (l : List Int) (ha : a ≤ l.length) : sumW (insL a l) = sumW l := by
  unfold sumW
  rw [insL_length a l ha]
  exact ins_sum (ins0_insL a l ha) l.length ha
theorem mem_ins (a : Nat) (l : List Int) (x : Int) : x ∈ insL a l ↔ x = 0 ∨ x ∈ l := by
  unfold insL
  rw [List.mem_append, List.mem_append, List.mem_singleton]
  have : x ∈ l ↔ x ∈ l.take a ∨ x ∈ l.drop a := by
    conv => lhs; rw [← List.take_append_drop a l, List.mem_append]
  rw [this]
  constructor
  · rintro ((h | h) | h)
    · exact Or.inr (Or.inl h)
    · exact Or.inl h
    · exact Or.inr (Or.inr h)
  · rintro (h | h | h)
    · exact Or.inl (Or.inr h)
    · exact Or.inl (Or.inl h)
    · exact Or.inr h
theorem apOk_ins (t : Int) (a : Nat) (l : List Int) (ha : a ≤ l.length) : apOk t (insL a l) ↔ apOk t l := by
  unfold apOk
  rw [sumW_ins a l ha]
  constructor
  · rintro ⟨h1, h2, h3⟩
    exact ⟨h1, fun x hx => h2 x ((mem_ins a l x).2 (Or.inr hx)), h3⟩
  · rintro ⟨h1, h2, h3⟩
    refine ⟨h1, fun x hx => ?_, h3⟩
    rcases (mem_ins a l x).1 hx with rfl | h
    · omega
    · exact h2 x h
theorem pN_ins (t : Int) (a : Nat) (l : List Int) (ha : a ≤ l.length) (h : apOk t l) (i : Nat) (hi : i < l.length) : pN t (insL a l) (sh a i) = pN t l i := by
  have h1 := ins_part (ins0_insL a l ha) t.toNat l.length i ha hi h.2.2.1
  unfold pN qN rN lN sumW
  rw [insL_length a l ha]
  exact h1
theorem pN_new (t : Int) (a : Nat) (l : List Int) (ha : a ≤ l.length) (h : apOk t l) : pN t (insL a l) a = 0 := by
  have h1 := ins_new (ins0_insL a l ha) t.toNat l.length ha h.2.2.1
  unfold pN qN rN lN sumW
  rw [insL_length a l ha]
  exact h1
theorem apL_new (t : Int) (a : Nat) (l : List Int) (ha : a ≤ l.length) (h : apOk t l) : (apL t (insL a l)).getD a 0 = 0 := by
  rw [apL_get t _ a (by rw [insL_length a l ha]; omega), pN_new t a l ha h]; rfl
/-- Without the new part: the parts as they were. -/
theorem apL_rest (t : Int) (a : Nat) (l : List Int) (ha : a ≤ l.length) (h : apOk t l) : (apL t (insL a l)).take a ++ (apL t (insL a l)).drop (a + 1) = apL t l := by
  apply List.ext_getElem?
  intro i
  have hlen : (apL t (insL a l)).length = l.length + 1 := by rw [apL_length, insL_length a l ha]
  rw [List.getElem?_append, List.length_take, hlen, List.getElem?_take, List.getElem?_drop]
  unfold apL
  rw [listN_get?, listN_get?, listN_get?, insL_length a l ha]
  have hm : min a (l.length + 1) = a := by omega
  rw [hm]
  by_cases h1 : i < a
  · rw [if_pos h1, if_pos h1, if_pos (by omega), if_pos (by omega)]
    have := pN_ins t a l ha h i (by omega)
    unfold sh at this
    rw [if_pos h1] at this
    rw [this]
  · rw [if_neg h1]
    have e : a + 1 + (i - a) = i + 1 := by omega
    rw [e]
    by_cases h2 : i < l.length
    · rw [if_pos (by omega), if_pos h2]
      have := pN_ins t a l ha h i h2
      unfold sh at this
      rw [if_neg h1] at this
      rw [this]
    · rw [if_neg (by omega), if_neg h2]
end Go.Proofs.Ytediphiebamffaa
