/- Plain mathematics of dealing out what is left in the order of a sorted list of remainders. -/
import Derived.Test.YtediphiebamffaaAmtB
namespace Go.Proofs.Ytediphiebamffaa

theorem mem_take_succ (E : List Nat) (k : Nat) (hk : k < E.length) (i : Nat) : i ∈ E.take (k + 1) ↔ i ∈ E.take k ∨ i = E[k] := by
  rw [List.take_succ_eq_append_getElem hk, List.mem_append, List.mem_singleton]
/-- The first k of a list of places, that is sorted by remainders, are k places that come before all others. -/
theorem deal_first (r : Nat → Nat) (n : Nat) (E : List Nat) (hp : E.Perm (List.range n)) (hs : ∀ p q (hq : q < E.length) (hpq : p < q), bef r (E[p]'(Nat.lt_trans hpq hq)) E[q] = true) (k : Nat) (hk : k ≤ n) :
    Init r n (fun i => decide (i ∈ E.take k)) ∧ size n (fun i => decide (i ∈ E.take k)) = k := by
  have hlen : E.length = n := by rw [hp.length_eq, List.length_range]
  have hnd : E.Nodup := hp.nodup_iff.2 List.nodup_range
  have hmem : ∀ i, i ∈ E ↔ i < n := fun i => by rw [hp.mem_iff, List.mem_range]
  induction k with
  | zero =>
    have e : (fun i => decide (i ∈ E.take 0)) = fun _ => false := by funext i; simp
    rw [e]
    exact ⟨init_empty r n, size_empty n⟩
  | succ k ih =>
    obtain ⟨h1, h2⟩ := ih (by omega)
    have hkl : k < E.length := by omega
    have hb : E[k] < n := (hmem _).1 (List.getElem_mem hkl)
    have hnot : E[k] ∉ E.take k := by
      intro h
      obtain ⟨p, hpl, he⟩ := List.mem_iff_getElem.1 h
      rw [List.length_take] at hpl
      rw [List.getElem_take] at he
      have := (List.getElem_inj hnd).1 he
      omega
    have e : (fun i => decide (i ∈ E.take (k + 1))) = fun i => decide (i ∈ E.take k) || decide (i = E[k]) := by
      funext i
      rw [Bool.eq_iff_iff, decide_eq_true_iff, mem_take_succ E k hkl, Bool.or_eq_true, decide_eq_true_iff, decide_eq_true_iff]
    rw [e]
    have := init_add r n _ h1 E[k] hb (by simp [hnot]) (by
      intro j hj hout hne
      obtain ⟨q, hq, rfl⟩ := List.mem_iff_getElem.1 ((hmem j).2 hj)
      have hkq : k < q := by
        have h3 : ¬ q < k := fun h => by
          have : E[q] ∈ E.take k := List.mem_iff_getElem.2 ⟨q, by rw [List.length_take]; omega, by rw [List.getElem_take]⟩
          simp [this] at hout
        have h4 : q ≠ k := fun h => by subst h; exact hne rfl
        omega
      exact hs k q hq hkq)
    exact ⟨this.1, by rw [this.2, h2]⟩
/-- One more dealt out. -/
theorem deal_next (E : List Nat) (q : Nat → Nat) (k : Nat) (hk : k < E.length) (i : Nat) :
    (q i + if i ∈ E.take (k + 1) then 1 else 0) = if i = E[k] then q i + 1 else q i + if i ∈ E.take k then 1 else 0 := by
  have hm := mem_take_succ E k hk i
  by_cases h : i = E[k]
  · rw [if_pos h, if_pos (hm.2 (Or.inr h))]
  · rw [if_neg h]
    by_cases h2 : i ∈ E.take k
    · rw [if_pos h2, if_pos (hm.2 (Or.inl h2))]
    · rw [if_neg h2, if_neg (fun h3 => by rcases hm.1 h3 with h4 | h4; exact h2 h4; exact h h4)]
theorem deal_new (E : List Nat) (hnd : E.Nodup) (k : Nat) (hk : k < E.length) : E[k] ∉ E.take k := by
  intro h
  obtain ⟨p, hpl, he⟩ := List.mem_iff_getElem.1 h
  rw [List.length_take] at hpl
  rw [List.getElem_take] at he
  have := (List.getElem_inj hnd).1 he
  omega
end Go.Proofs.Ytediphiebamffaa
