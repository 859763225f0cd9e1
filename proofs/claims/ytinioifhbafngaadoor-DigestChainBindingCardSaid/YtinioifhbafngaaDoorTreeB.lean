/- More plain mathematics of trees of digests: equations of proofs and extensions without fuel, and the lengths of their elements. -/
import Derived.Test.YtinioifhbafngaaDoorTree
namespace Go.Proofs.YtinioifhbafngaaDoor
section
variable (hs : Bs → Bs)

theorem proofA_fuel (f g : Nat) (l : List Bs) (i : Nat) (hf : l.length ≤ f) (hg : l.length ≤ g) : proofA hs f l i = proofA hs g l i := by
  induction f generalizing g l i with
  | zero =>
    have hl : l = [] := List.length_eq_zero_iff.1 (by omega)
    subst hl
    cases g <;> simp [proofA]
  | succ f ih =>
    cases g with
    | zero =>
      have hl : l = [] := List.length_eq_zero_iff.1 (by omega)
      subst hl; simp [proofA]
    | succ g =>
      unfold proofA
      by_cases h : l.length ≤ 1
      · rw [if_pos h, if_pos h]
      · rw [if_neg h, if_neg h]
        have hr := left_range l.length (by omega)
        rw [ih g (l.take (left l.length)) i (by rw [List.length_take]; omega) (by rw [List.length_take]; omega), ih g (l.drop (left l.length)) (i - left l.length) (by rw [List.length_drop]; omega) (by rw [List.length_drop]; omega)]
theorem proofF_one (l : List Bs) (i : Nat) (h : l.length ≤ 1) : proofF hs l i = [] := by
  unfold proofF
  match l, h with
  | [], _ => rfl
  | [_], _ => simp [proofA]
  | _ :: _ :: _, h => simp at h
theorem proofF_lt (l : List Bs) (i : Nat) (h : 2 ≤ l.length) (hi : i < left l.length) : proofF hs l i = proofF hs (l.take (left l.length)) i ++ [rootF hs (l.drop (left l.length))] := by
  have hr := left_range _ h
  obtain ⟨n, hn⟩ : ∃ n, l.length = n + 1 := ⟨l.length - 1, by omega⟩
  have e : proofF hs l i = proofA hs (n + 1) l i := by unfold proofF; rw [hn]
  rw [e]
  unfold proofA
  rw [if_neg (by omega), if_pos hi]
  unfold proofF
  rw [proofA_fuel hs n _ (l.take (left l.length)) i (by rw [List.length_take]; omega) (Nat.le_refl _)]
theorem proofF_ge (l : List Bs) (i : Nat) (h : 2 ≤ l.length) (hi : ¬ i < left l.length) : proofF hs l i = proofF hs (l.drop (left l.length)) (i - left l.length) ++ [rootF hs (l.take (left l.length))] := by
  have hr := left_range _ h
  obtain ⟨n, hn⟩ : ∃ n, l.length = n + 1 := ⟨l.length - 1, by omega⟩
  have e : proofF hs l i = proofA hs (n + 1) l i := by unfold proofF; rw [hn]
  rw [e]
  unfold proofA
  rw [if_neg (by omega), if_neg hi]
  unfold proofF
  rw [proofA_fuel hs n _ (l.drop (left l.length)) (i - left l.length) (by rw [List.length_drop]; omega) (Nat.le_refl _)]
theorem proofF_length (l : List Bs) (i d : Nat) (hd : l.length ≤ 2 ^ d) : (proofF hs l i).length ≤ d := proofA_length hs _ l i d hd

theorem partA_fuel (f g : Nat) (l : List Bs) (m : Nat) (whole : Bool) (hf : l.length ≤ f) (hg : l.length ≤ g) (h0 : 1 ≤ m) (hm : m ≤ l.length) : partA hs f l m whole = partA hs g l m whole := by
  induction f generalizing g l m whole with
  | zero => omega
  | succ f ih =>
    cases g with
    | zero => omega
    | succ g =>
      unfold partA
      by_cases h : m = l.length
      · rw [if_pos h, if_pos h]
      · rw [if_neg h, if_neg h]
        have hr := left_range l.length (by omega)
        by_cases hk : m ≤ left l.length
        · rw [if_pos hk, if_pos hk, ih g (l.take (left l.length)) m whole (by rw [List.length_take]; omega) (by rw [List.length_take]; omega) h0 (by rw [List.length_take]; omega)]
        · rw [if_neg hk, if_neg hk, ih g (l.drop (left l.length)) (m - left l.length) false (by rw [List.length_drop]; omega) (by rw [List.length_drop]; omega) (by omega) (by rw [List.length_drop]; omega)]
def partF (l : List Bs) (m : Nat) (whole : Bool) : List Bs := partA hs l.length l m whole
theorem extF_part (l : List Bs) (m : Nat) (h : 1 ≤ m) : extF hs l m = partF hs l m true := by
  unfold extF; rw [if_neg (by omega)]; rfl
theorem extF_zero (l : List Bs) : extF hs l 0 = [] := rfl
theorem partF_all (l : List Bs) (m : Nat) (whole : Bool) (h0 : 1 ≤ m) (h : m = l.length) : partF hs l m whole = if whole then [] else [rootF hs l] := by
  obtain ⟨n, hn⟩ : ∃ n, l.length = n + 1 := ⟨l.length - 1, by omega⟩
  have e : partF hs l m whole = partA hs (n + 1) l m whole := by unfold partF; rw [hn]
  rw [e]
  unfold partA
  rw [if_pos h]
theorem partF_le (l : List Bs) (m : Nat) (whole : Bool) (h0 : 1 ≤ m) (h : m < l.length) (hk : m ≤ left l.length) : partF hs l m whole = partF hs (l.take (left l.length)) m whole ++ [rootF hs (l.drop (left l.length))] := by
  have hr := left_range l.length (by omega)
  obtain ⟨n, hn⟩ : ∃ n, l.length = n + 1 := ⟨l.length - 1, by omega⟩
  have e : partF hs l m whole = partA hs (n + 1) l m whole := by unfold partF; rw [hn]
  rw [e]
  unfold partA
  rw [if_neg (by omega), if_pos hk]
  unfold partF
  rw [partA_fuel hs n _ (l.take (left l.length)) m whole (by rw [List.length_take]; omega) (Nat.le_refl _) h0 (by rw [List.length_take]; omega)]
theorem partF_gt (l : List Bs) (m : Nat) (whole : Bool) (h0 : 1 ≤ m) (h : m < l.length) (hk : ¬ m ≤ left l.length) : partF hs l m whole = partF hs (l.drop (left l.length)) (m - left l.length) false ++ [rootF hs (l.take (left l.length))] := by
  have hr := left_range l.length (by omega)
  obtain ⟨n, hn⟩ : ∃ n, l.length = n + 1 := ⟨l.length - 1, by omega⟩
  have e : partF hs l m whole = partA hs (n + 1) l m whole := by unfold partF; rw [hn]
  rw [e]
  unfold partA
  rw [if_neg (by omega), if_neg hk]
  unfold partF
  rw [partA_fuel hs n _ (l.drop (left l.length)) (m - left l.length) false (by rw [List.length_drop]; omega) (Nat.le_refl _) (by omega) (by rw [List.length_drop]; omega)]

variable (h32 : ∀ s, (hs s).length = 32)
include h32 in
theorem root32 (l : List Bs) : (rootF hs l).length = 32 := by
  by_cases h : 2 ≤ l.length
  · rw [root_two hs l h]; exact h32 _
  · match l, h with
    | [], _ => exact h32 _
    | [_], _ => exact h32 _
    | _ :: _ :: _, h => exact absurd (by simp) h
include h32 in
theorem proofA_32 (f : Nat) (l : List Bs) (i : Nat) : ∀ x ∈ proofA hs f l i, x.length = 32 := by
  induction f generalizing l i with
  | zero => intro x hx; simp [proofA] at hx
  | succ f ih =>
    intro x hx
    unfold proofA at hx
    by_cases h : l.length ≤ 1
    · rw [if_pos h] at hx; simp at hx
    · rw [if_neg h] at hx
      by_cases hk : i < left l.length
      · rw [if_pos hk] at hx
        rcases List.mem_append.1 hx with h | h
        · exact ih _ _ _ h
        · rw [List.mem_singleton.1 h]; exact root32 hs h32 _
      · rw [if_neg hk] at hx
        rcases List.mem_append.1 hx with h | h
        · exact ih _ _ _ h
        · rw [List.mem_singleton.1 h]; exact root32 hs h32 _
include h32 in
theorem proofF_32 (l : List Bs) (i : Nat) : ∀ x ∈ proofF hs l i, x.length = 32 := proofA_32 hs h32 _ l i
include h32 in
theorem partA_32 (f : Nat) (l : List Bs) (m : Nat) (whole : Bool) : ∀ x ∈ partA hs f l m whole, x.length = 32 := by
  induction f generalizing l m whole with
  | zero => intro x hx; simp [partA] at hx
  | succ f ih =>
    intro x hx
    unfold partA at hx
    by_cases h : m = l.length
    · rw [if_pos h] at hx
      cases whole with
      | true => simp at hx
      | false =>
        have : x = rootF hs l := by simpa using hx
        rw [this]; exact root32 hs h32 _
    · rw [if_neg h] at hx
      by_cases hk : m ≤ left l.length
      · rw [if_pos hk] at hx
        rcases List.mem_append.1 hx with h | h
        · exact ih _ _ _ _ h
        · rw [List.mem_singleton.1 h]; exact root32 hs h32 _
      · rw [if_neg hk] at hx
        rcases List.mem_append.1 hx with h | h
        · exact ih _ _ _ _ h
        · rw [List.mem_singleton.1 h]; exact root32 hs h32 _
include h32 in
theorem partF_32 (l : List Bs) (m : Nat) (whole : Bool) : ∀ x ∈ partF hs l m whole, x.length = 32 := partA_32 hs h32 _ l m whole
include h32 in
theorem extF_32 (l : List Bs) (m : Nat) : ∀ x ∈ extF hs l m, x.length = 32 := by
  unfold extF
  split
  · intro x hx; simp at hx
  · exact partA_32 hs h32 _ l m true
theorem partF_length (l : List Bs) (m : Nat) (whole : Bool) (d : Nat) (hd : l.length ≤ 2 ^ d) (h0 : 1 ≤ m) (hm : m ≤ l.length) : (partF hs l m whole).length ≤ d + 1 := partA_length hs _ l m whole d hd h0 hm
end
end Go.Proofs.YtinioifhbafngaaDoor
