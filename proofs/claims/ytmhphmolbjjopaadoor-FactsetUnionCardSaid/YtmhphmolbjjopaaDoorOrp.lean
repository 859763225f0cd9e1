/- FactsetOrder's plain side. -/
import Derived.Test.YtmhphmolbjjopaaDoorOf
import Derived.Test.YtmhphmolbjjopaaDoorHel
namespace Go.Proofs.YtmhphmolbjjopaaDoor
theorem addAll_app (es : List Ent) (a b : List Fa) : addAll es (a ++ b) = addAll (addAll es a) b := by unfold addAll; rw [List.foldl_append]
theorem ofL_snoc (a : List Fa) (f : Fa) : ofL (a ++ [f]) = plusE (ofL a) f := by unfold ofL; rw [addAll_app]; rfl
/-- The valid ones among the first k. -/
def cntF (l : List Fa) (k : Nat) : Nat := ((l.take k).filter okA).length
theorem cntF_succ {l : List Fa} {k : Nat} (h : k < l.length) : cntF l (k + 1) = if okA (l.getD k zeroA) = true then cntF l k + 1 else cntF l k := by
  unfold cntF
  rw [List.take_succ_eq_append_getElem h, List.filter_append, List.getD_eq_getElem?_getD, List.getElem?_eq_getElem h]
  show _ = if okA l[k] = true then _ else _
  rw [List.length_append]
  cases hk : okA l[k] <;> simp [List.filter, hk]
theorem cntF_le (l : List Fa) (k : Nat) : cntF l k ≤ k := by
  unfold cntF
  exact Nat.le_trans (List.length_filter_le _ _) (by rw [List.length_take]; omega)
theorem ofL_count (l : List Fa) : ∀ k, k ≤ l.length → (ofL (l.take k)).length ≤ cntF l k := by
  intro k
  induction k with
  | zero => intro _; simp [ofL, addAll]
  | succ k ih =>
    intro h
    rw [addAll_succ l k h, cntF_succ h]
    have h1 := ih (by omega)
    have h2 := (plusE_length (good_of (l.take k)) (l.getD k zeroA)).1
    by_cases ho : okA (l.getD k zeroA) = true
    · rw [if_pos ho]; omega
    · rw [if_neg ho]
      have h3 : plusE (ofL (l.take k)) (l.getD k zeroA) = ofL (l.take k) := by unfold plusE; rw [show okA (l.getD k zeroA) = false by simpa using ho]; rfl
      rw [h3]; exact h1
theorem ofL_hasE (l : List Fa) (hl : l.length ≤ 4000) {f : Fa} (hf : f ∈ l) (ho : okA f = true) : hasE (ofL l) (keyF f) = true := by
  unfold hasE
  rw [ofL_get l hl]
  cases h : firstF l (keyF f) with
  | some g => rfl
  | none => exact absurd rfl (firstF_none.1 h f hf ho)
theorem ofL_some (l : List Fa) (hl : l.length ≤ 4000) (hc : cntF l l.length ≠ 0) : 0 < (ofL l).length := by
  unfold cntF at hc
  rw [List.take_length] at hc
  obtain ⟨f, hf⟩ := List.exists_mem_of_length_pos (Nat.pos_of_ne_zero hc)
  rw [List.mem_filter] at hf
  have h := ofL_hasE l hl hf.1 hf.2
  cases he : ofL l with
  | nil => rw [he] at h; cases h
  | cons x r => simp
theorem has_empty {es : List Ent} (h : Good es) : hasE es [] = false := by
  cases hh : hasE es [] with
  | false => rfl
  | true =>
    unfold hasE at hh
    obtain ⟨x, hx⟩ := Option.isSome_iff_exists.1 hh
    have := good_key h (getE_mem hx)
    cases this
/-- However often and in whatever order. -/
theorem ofL_any {l m : List Fa} (hT : ¬ TwinsP l) (hm : ∀ f ∈ m, f ∈ l) (h1 : l.length ≤ 1000) (h2 : m.length ≤ 1000) : ofL l = ofL (m ++ l.reverse) :=
  ofL_same hT (fun _ h => h) (fun f h => by
    rcases List.mem_append.1 h with h | h
    · exact hm f h
    · exact List.mem_reverse.1 h) (fun f => ⟨fun h => List.mem_append.2 (.inr (List.mem_reverse.2 h)), fun h => by
      rcases List.mem_append.1 h with h | h
      · exact hm f h
      · exact List.mem_reverse.1 h⟩) (by omega) (by rw [List.length_append, List.length_reverse]; omega)
theorem getD_mem {l : List Fa} {k : Nat} (h : k < l.length) : l.getD k zeroA ∈ l := by
  rw [List.getD_eq_getElem?_getD, List.getElem?_eq_getElem h]; exact List.getElem_mem h
theorem back_succ (m l : List Fa) (k : Nat) (h : k < l.length) : m ++ (l.drop k).reverse = m ++ (l.drop (k + 1)).reverse ++ [l.getD k zeroA] := by
  rw [List.drop_eq_getElem_cons h, List.reverse_cons, List.append_assoc, List.getD_eq_getElem?_getD, List.getElem?_eq_getElem h]; rfl
end Go.Proofs.YtmhphmolbjjopaaDoor
