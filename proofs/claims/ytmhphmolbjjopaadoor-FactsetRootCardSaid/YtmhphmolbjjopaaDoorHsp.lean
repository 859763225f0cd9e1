/- The strings whose digests make the root of a list, as lists: two different lists with the same root have among them two different strings with the same digest. Plain mathematics. -/
import Derived.Test.YtmhphmolbjjopaaDoorDTr
namespace Go.Proofs.YtmhphmolbjjopaaDoor
open Go.RowKit
def topF (l : List Bs) : Bs := 1 :: (rootF shaF (l.take (left l.length)) ++ rootF shaF (l.drop (left l.length)))
def hashA : Nat → List Bs → List Bs
  | 0, _ => [[]]
  | f + 1, l =>
    match l with
    | [] => [[]]
    | [x] => [0 :: x]
    | l => (hashA f (l.take (left l.length)) ++ hashA f (l.drop (left l.length))) ++ [topF l]
def hashF (l : List Bs) : List Bs := hashA l.length l
theorem hashA_two (f : Nat) (l : List Bs) (h : 2 ≤ l.length) : hashA (f + 1) l = (hashA f (l.take (left l.length)) ++ hashA f (l.drop (left l.length))) ++ [topF l] := by
  match l, h with
  | _ :: _ :: _, _ => rfl
theorem hashA_fuel (f g : Nat) (l : List Bs) (hf : l.length ≤ f) (hg : l.length ≤ g) : hashA f l = hashA g l := by
  induction f generalizing g l with
  | zero =>
    have hl : l = [] := List.length_eq_zero_iff.1 (by omega)
    subst hl
    cases g <;> rfl
  | succ f ih =>
    cases g with
    | zero =>
      have hl : l = [] := List.length_eq_zero_iff.1 (by omega)
      subst hl; rfl
    | succ g =>
      by_cases h : 2 ≤ l.length
      · have hr := left_range _ h
        rw [hashA_two f l h, hashA_two g l h]
        rw [ih g (l.take (left l.length)) (by rw [List.length_take]; omega) (by rw [List.length_take]; omega), ih g (l.drop (left l.length)) (by rw [List.length_drop]; omega) (by rw [List.length_drop]; omega)]
      · match l, h with
        | [], _ => rfl
        | [_], _ => rfl
        | _ :: _ :: _, h => simp at h
theorem hash_nil : hashF [] = [[]] := rfl
theorem hash_one (x : Bs) : hashF [x] = [0 :: x] := rfl
theorem hash_two (l : List Bs) (h : 2 ≤ l.length) : hashF l = (hashF (l.take (left l.length)) ++ hashF (l.drop (left l.length))) ++ [topF l] := by
  have hr := left_range _ h
  unfold hashF
  obtain ⟨n, hn⟩ : ∃ n, l.length = n + 1 := ⟨l.length - 1, by omega⟩
  conv => lhs; rw [hn]
  rw [hashA_two n l h]
  rw [hashA_fuel n _ (l.take (left l.length)) (by rw [List.length_take]; omega) (Nat.le_refl _), hashA_fuel n _ (l.drop (left l.length)) (by rw [List.length_drop]; omega) (Nat.le_refl _)]
theorem one_of_short {l : List Bs} (h : ¬ 2 ≤ l.length) : l = [] ∨ ∃ x, l = [x] := by
  match l, h with
  | [], _ => exact .inl rfl
  | [x], _ => exact .inr ⟨x, rfl⟩
  | _ :: _ :: _, h => simp at h
theorem hash_le (n : Nat) : ∀ l : List Bs, l.length ≤ n → 1 ≤ l.length → (hashF l).length + 1 ≤ 2 * l.length := by
  induction n with
  | zero => intro l h h1; omega
  | succ n ih =>
    intro l h h1
    by_cases h2 : 2 ≤ l.length
    · have hr := left_range _ h2
      have a := ih (l.take (left l.length)) (by rw [List.length_take]; omega) (by rw [List.length_take]; omega)
      have b := ih (l.drop (left l.length)) (by rw [List.length_drop]; omega) (by rw [List.length_drop]; omega)
      rw [hash_two l h2, List.length_append, List.length_append]
      rw [List.length_take] at a
      rw [List.length_drop] at b
      simp only [List.length_cons, List.length_nil]
      omega
    · rcases one_of_short h2 with rfl | ⟨x, rfl⟩
      · simp at h1
      · rw [hash_one]; simp
theorem hash_len (l : List Bs) : (hashF l).length ≤ 2 * l.length + 1 := by
  by_cases h : 1 ≤ l.length
  · have := hash_le l.length l (Nat.le_refl _) h
    omega
  · have hl : l = [] := List.length_eq_zero_iff.1 (by omega)
    subst hl; rw [hash_nil]; simp
theorem hash_short (M n : Nat) : ∀ l : List Bs, l.length ≤ n → (∀ x ∈ l, x.length ≤ M) → ∀ x ∈ hashF l, x.length ≤ M + 65 := by
  induction n with
  | zero =>
    intro l h _ x hx
    have hl : l = [] := List.length_eq_zero_iff.1 (by omega)
    subst hl
    rw [hash_nil, List.mem_singleton] at hx
    subst hx; simp
  | succ n ih =>
    intro l h hM x hx
    by_cases h2 : 2 ≤ l.length
    · have hr := left_range _ h2
      rw [hash_two l h2, List.mem_append, List.mem_append, List.mem_singleton] at hx
      rcases hx with (hx | hx) | rfl
      · exact ih (l.take (left l.length)) (by rw [List.length_take]; omega) (fun y hy => hM y (List.mem_of_mem_take hy)) x hx
      · exact ih (l.drop (left l.length)) (by rw [List.length_drop]; omega) (fun y hy => hM y (List.mem_of_mem_drop hy)) x hx
      · unfold topF
        rw [List.length_cons, List.length_append, root_length, root_length]
        omega
    · rcases one_of_short h2 with rfl | ⟨y, rfl⟩
      · rw [hash_nil, List.mem_singleton] at hx
        subst hx; simp
      · rw [hash_one, List.mem_singleton] at hx
        subst hx
        have := hM y (by simp)
        rw [List.length_cons]; omega
/-- The last of the strings: its digest is the root. -/
theorem hash_top (l : List Bs) : ∃ t ∈ hashF l, shaF t = rootF shaF l ∧ ((l = [] ∧ t = []) ∨ (∃ x, l = [x] ∧ t = 0 :: x) ∨ (2 ≤ l.length ∧ t = topF l)) := by
  by_cases h2 : 2 ≤ l.length
  · refine ⟨topF l, ?_, ?_, .inr (.inr ⟨h2, rfl⟩)⟩
    · rw [hash_two l h2]; simp
    · rw [root_two shaF l h2]; rfl
  · rcases one_of_short h2 with rfl | ⟨x, rfl⟩
    · exact ⟨[], by rw [hash_nil]; simp, rfl, .inl ⟨rfl, rfl⟩⟩
    · exact ⟨0 :: x, by rw [hash_one]; simp, rfl, .inr (.inl ⟨x, rfl, rfl⟩)⟩
theorem hash_coll (n : Nat) : ∀ k l : List Bs, k.length ≤ n → rootF shaF k = rootF shaF l → k ≠ l → ∃ x ∈ hashF k, ∃ y ∈ hashF l, x ≠ y ∧ shaF x = shaF y := by
  induction n with
  | zero =>
    intro k l h hr hne
    obtain ⟨s, ms, hs, cs⟩ := hash_top k
    obtain ⟨t, mt, ht, ct⟩ := hash_top l
    by_cases e : s = t
    · exfalso
      have hk : k = [] := List.length_eq_zero_iff.1 (by omega)
      subst hk
      subst e
      rcases cs with ⟨_, rfl⟩ | ⟨x, hx, _⟩ | ⟨h2, _⟩
      · rcases ct with ⟨rfl, _⟩ | ⟨x, _, hx⟩ | ⟨_, hx⟩
        · exact hne rfl
        · cases hx
        · unfold topF at hx; cases hx
      · cases hx
      · simp at h2
    · exact ⟨s, ms, t, mt, e, by rw [hs, ht, hr]⟩
  | succ n ih =>
    intro k l h hr hne
    obtain ⟨s, ms, hs, cs⟩ := hash_top k
    obtain ⟨t, mt, ht, ct⟩ := hash_top l
    by_cases e : s = t
    · subst e
      rcases cs with ⟨rfl, rfl⟩ | ⟨x, rfl, rfl⟩ | ⟨h2, rfl⟩
      · rcases ct with ⟨rfl, _⟩ | ⟨x, _, hx⟩ | ⟨_, hx⟩
        · exact absurd rfl hne
        · cases hx
        · unfold topF at hx; cases hx
      · rcases ct with ⟨_, hx⟩ | ⟨y, rfl, hy⟩ | ⟨_, hx⟩
        · cases hx
        · injection hy with _ hy
          subst hy
          exact absurd rfl hne
        · unfold topF at hx; injection hx with hx _; exact absurd hx (by decide)
      · rcases ct with ⟨_, hx⟩ | ⟨y, _, hy⟩ | ⟨h3, hx⟩
        · unfold topF at hx; cases hx
        · unfold topF at hy; injection hy with hy _; exact absurd hy (by decide)
        · unfold topF at hx
          injection hx with _ hx
          obtain ⟨ha, hb⟩ := List.append_inj hx (by rw [root_length, root_length])
          have hr2 := left_range _ h2
          by_cases e1 : k.take (left k.length) = l.take (left l.length)
          · have e2 : k.drop (left k.length) ≠ l.drop (left l.length) := fun e2 => hne (by
              rw [← List.take_append_drop (left k.length) k, ← List.take_append_drop (left l.length) l, e1, e2])
            obtain ⟨x, mx, y, my, h4⟩ := ih _ _ (by rw [List.length_drop]; omega) hb e2
            exact ⟨x, by rw [hash_two k h2]; simp [mx], y, by rw [hash_two l h3]; simp [my], h4⟩
          · obtain ⟨x, mx, y, my, h4⟩ := ih _ _ (by rw [List.length_take]; omega) ha e1
            exact ⟨x, by rw [hash_two k h2]; simp [mx], y, by rw [hash_two l h3]; simp [my], h4⟩
    · exact ⟨s, ms, t, mt, e, by rw [hs, ht, hr]⟩
end Go.Proofs.YtmhphmolbjjopaaDoor
